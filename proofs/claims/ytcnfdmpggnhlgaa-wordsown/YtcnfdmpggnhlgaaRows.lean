/-
  No cell of these rows narrows 'for every input' (looked for: loops, veiled, ifaces, maps, wideKeys, modest, calm, conditions, laid).
  DERIVED. THE GIVEN ROWS OF THIS SEAT. 6 by the template 'for every input the law returns true; each argument reads behind the call as it read before'; 0 by the template 'total and deterministic' (their statements: YtcnfdmpggnhlgaaTotals.lean).
  GIVEN WITH THE SEED: the statements are not yours to turn. If you find one false, say at which input.
  Laid BY PROGRAM, IN A SANDBOX (cutbox-rows.mjs): the forced cells as the released guide's own fill.sh prints them over the translation d6a052fa50b2ca95… (all of the seat's roots in one cut). By AI agents, Wed Nov 11 2026. No macro, syntax, notation, axiom, sorry.
-/
import Derived.Test.YtcnfdmpggnhlgaaChecked
import GoSem.Claim
import GoSem.ClaimJoined
import GoSem.ClaimMapViews
import Derived.JoinedTies
import Derived.KernelRfl
namespace Go.Proofs.Ytcnfdmpggnhlgaa
/- THE CELL 'sum', in the pinned program and in every row, IS THE sha256 OF THE DUMP (.gsa) THAT YtcnfdmpggnhlgaaProg.lean LOADS. Nothing in Lean hashes anything: it is a label: what it is worth is what the hold of that sum in a sandbox is worth. -/
noncomputable def Try.pinned : Pinned := { name := "ytcnfdmpggnhlgaa", sum := "d6a052fa50b2ca956ce29e7b9f8a8e8ed6023712dde765309da2ead4b2054b5e", checked := Try.checked }
namespace Rows
def none {H : Type} : Left H := { results := [], args := [] }

/-- 'quilllaw.SuffixSays': WHATEVER THE INPUT: true; the input reads as it did. -/
def suffixSaysSpec : ChangeSpec := { name := "suffixSays", fn := fun _ => fun
  | [d] => { results := [.lit (.bool true)], args := [d] }
  | _ => none }
def suffixSaysRow : OpenClaim := { program := "ytcnfdmpggnhlgaa", sum := "d6a052fa50b2ca956ce29e7b9f8a8e8ed6023712dde765309da2ead4b2054b5e", func := "quillward/quilllaw.SuffixSays", spec := "suffixSays", inPlace := ["internal/bytealg.abigen_runtime_cmpstring"], unfollowed := true, recurses := true, apart := false }
def SuffixSaysSaid : Prop := suffixSaysRow.holds Try.pinned (OpenSpec.ofChange suffixSaysSpec)

/-- ITS FALSE NEIGHBOUR: 'it returns false'. Refute it at one input. -/
def suffixSaysWrong : ChangeSpec := { name := "suffixSays", fn := fun _ => fun
  | [d] => { results := [.lit (.bool false)], args := [d] }
  | _ => none }
def SuffixSaysWrongFalsely : Prop := suffixSaysRow.holds Try.pinned (OpenSpec.ofChange suffixSaysWrong)

/-- 'quillkeep.SuffixCommon': WHATEVER THE INPUT: true; the input reads as it did. -/
def suffixCommonSpec : ChangeSpec := { name := "suffixCommon", fn := fun _ => fun
  | [d1, d2, d3] => { results := [.lit (.bool true)], args := [d1, d2, d3] }
  | _ => none }
def suffixCommonRow : OpenClaim := { program := "ytcnfdmpggnhlgaa", sum := "d6a052fa50b2ca956ce29e7b9f8a8e8ed6023712dde765309da2ead4b2054b5e", func := "quillward/quillkeep.SuffixCommon", spec := "suffixCommon", inPlace := ["internal/bytealg.abigen_runtime_cmpstring"], unfollowed := true, recurses := true, apart := false }
def SuffixCommonSaid : Prop := suffixCommonRow.holds Try.pinned (OpenSpec.ofChange suffixCommonSpec)

/-- ITS FALSE NEIGHBOUR: 'it returns false'. Refute it at one input. -/
def suffixCommonWrong : ChangeSpec := { name := "suffixCommon", fn := fun _ => fun
  | [d1, d2, d3] => { results := [.lit (.bool false)], args := [d1, d2, d3] }
  | _ => none }
def SuffixCommonWrongFalsely : Prop := suffixCommonRow.holds Try.pinned (OpenSpec.ofChange suffixCommonWrong)

/-- 'quillkeep.SuffixUnlike': WHATEVER THE INPUT: true; the input reads as it did. -/
def suffixUnlikeSpec : ChangeSpec := { name := "suffixUnlike", fn := fun _ => fun
  | [d1, d2] => { results := [.lit (.bool true)], args := [d1, d2] }
  | _ => none }
def suffixUnlikeRow : OpenClaim := { program := "ytcnfdmpggnhlgaa", sum := "d6a052fa50b2ca956ce29e7b9f8a8e8ed6023712dde765309da2ead4b2054b5e", func := "quillward/quillkeep.SuffixUnlike", spec := "suffixUnlike", inPlace := ["internal/bytealg.abigen_runtime_cmpstring", "internal/abi.NoEscape", "internal/bytealg.MakeNoZero"], unfollowed := true, recurses := true, apart := false }
def SuffixUnlikeSaid : Prop := suffixUnlikeRow.holds Try.pinned (OpenSpec.ofChange suffixUnlikeSpec)

/-- ITS FALSE NEIGHBOUR: 'it returns false'. Refute it at one input. -/
def suffixUnlikeWrong : ChangeSpec := { name := "suffixUnlike", fn := fun _ => fun
  | [d1, d2] => { results := [.lit (.bool false)], args := [d1, d2] }
  | _ => none }
def SuffixUnlikeWrongFalsely : Prop := suffixUnlikeRow.holds Try.pinned (OpenSpec.ofChange suffixUnlikeWrong)

/-- 'quillkeep.SuffixTwice': WHATEVER THE INPUT: true; the input reads as it did. -/
def suffixTwiceSpec : ChangeSpec := { name := "suffixTwice", fn := fun _ => fun
  | [d1, d2, d3, d4] => { results := [.lit (.bool true)], args := [d1, d2, d3, d4] }
  | _ => none }
def suffixTwiceRow : OpenClaim := { program := "ytcnfdmpggnhlgaa", sum := "d6a052fa50b2ca956ce29e7b9f8a8e8ed6023712dde765309da2ead4b2054b5e", func := "quillward/quillkeep.SuffixTwice", spec := "suffixTwice", inPlace := ["internal/bytealg.abigen_runtime_cmpstring", "internal/bytealg.IndexByteString", "internal/bytealg.IndexString"], unfollowed := true, recurses := true, named := ["internal/bytealg.MaxLen"], apart := false }
def SuffixTwiceSaid : Prop := suffixTwiceRow.holds Try.pinned (OpenSpec.ofChange suffixTwiceSpec)

/-- ITS FALSE NEIGHBOUR: 'it returns false'. Refute it at one input. -/
def suffixTwiceWrong : ChangeSpec := { name := "suffixTwice", fn := fun _ => fun
  | [d1, d2, d3, d4] => { results := [.lit (.bool false)], args := [d1, d2, d3, d4] }
  | _ => none }
def SuffixTwiceWrongFalsely : Prop := suffixTwiceRow.holds Try.pinned (OpenSpec.ofChange suffixTwiceWrong)

/-- 'quillkeep.LyndonSuffix': WHATEVER THE INPUT: true; the input reads as it did. -/
def lyndonSuffixSpec : ChangeSpec := { name := "lyndonSuffix", fn := fun _ => fun
  | [d] => { results := [.lit (.bool true)], args := [d] }
  | _ => none }
def lyndonSuffixRow : OpenClaim := { program := "ytcnfdmpggnhlgaa", sum := "d6a052fa50b2ca956ce29e7b9f8a8e8ed6023712dde765309da2ead4b2054b5e", func := "quillward/quillkeep.LyndonSuffix", spec := "lyndonSuffix", inPlace := ["internal/bytealg.abigen_runtime_cmpstring"], unfollowed := true, recurses := true, apart := false }
def LyndonSuffixSaid : Prop := lyndonSuffixRow.holds Try.pinned (OpenSpec.ofChange lyndonSuffixSpec)

/-- ITS FALSE NEIGHBOUR: 'it returns false'. Refute it at one input. -/
def lyndonSuffixWrong : ChangeSpec := { name := "lyndonSuffix", fn := fun _ => fun
  | [d] => { results := [.lit (.bool false)], args := [d] }
  | _ => none }
def LyndonSuffixWrongFalsely : Prop := lyndonSuffixRow.holds Try.pinned (OpenSpec.ofChange lyndonSuffixWrong)

/-- 'quillkeep.WordsOwn': WHATEVER THE INPUT: true; the input reads as it did. -/
def wordsOwnSpec : ChangeSpec := { name := "wordsOwn", fn := fun _ => fun
  | [d1, d2] => { results := [.lit (.bool true)], args := [d1, d2] }
  | _ => none }
def wordsOwnRow : OpenClaim := { program := "ytcnfdmpggnhlgaa", sum := "d6a052fa50b2ca956ce29e7b9f8a8e8ed6023712dde765309da2ead4b2054b5e", func := "quillward/quillkeep.WordsOwn", spec := "wordsOwn", inPlace := ["internal/bytealg.abigen_runtime_cmpstring", "slices.overlaps[*quillward/trie.node]"], unfollowed := true, recurses := true, apart := false }
def WordsOwnSaid : Prop := wordsOwnRow.holds Try.pinned (OpenSpec.ofChange wordsOwnSpec)

/-- ITS FALSE NEIGHBOUR: 'it returns false'. Refute it at one input. -/
def wordsOwnWrong : ChangeSpec := { name := "wordsOwn", fn := fun _ => fun
  | [d1, d2] => { results := [.lit (.bool false)], args := [d1, d2] }
  | _ => none }
def WordsOwnWrongFalsely : Prop := wordsOwnRow.holds Try.pinned (OpenSpec.ofChange wordsOwnWrong)

/- THE SECOND FORM. 'bulk': how many values and letters a reading holds, each counted each time it is reached (what is shared counts as often as it is met; a slice's spare places count too). A statement '..UptoSaid' is the law's where the arguments, and the package variables that the reading takes, are together of bulk at most 1048576: NARROWER than '..Said'. Prove '..Said' where nothing that the law and all that it calls make is longer than what came in: it says more and counts as full. Else prove '..UptoSaid'. A law counts once. -/
mutual
def uptoBulk {H : Type} : DataW H → Nat
  | .lit (.string bytes) => bytes.length + 1
  | .lit _ => 1
  | .nil => 1
  | .ptr d => uptoBulk d + 1
  | .slice elems spare => uptoBulkAll elems + uptoBulkAll spare + 1
  | .agg parts => uptoBulkAll parts + 1
  | .iface _ d => uptoBulk d + 1
  | .map entries => uptoBulkEntries entries + 1
  | .held _ => 1
def uptoBulkAll {H : Type} : List (DataW H) → Nat
  | [] => 0
  | d :: r => uptoBulk d + uptoBulkAll r
def uptoBulkEntries {H : Type} : List (Lit × DataW H) → Nat
  | [] => 0
  | x :: r => uptoBulkEntry x + uptoBulkEntries r
def uptoBulkEntry {H : Type} : Lit × DataW H → Nat
  | (.string bytes, d) => bytes.length + uptoBulk d + 1
  | (_, d) => uptoBulk d + 1
 end
def uptoSmall : (H : Type) → List (DataW H) → Bool := fun _ ds => decide (uptoBulkAll ds ≤ 1048576)
def OpenSpec.upto (s : _root_.Go.ChangeSpec) : _root_.Go.OpenSpec := { _root_.Go.OpenSpec.ofChange s with cond := some uptoSmall }

/-- 'quilllaw.SuffixSays', WHERE WHAT IT READS IS OF BULK AT MOST 1048576: true; the input reads as it did. -/
def suffixSaysUptoRow : OpenClaim := { program := "ytcnfdmpggnhlgaa", sum := "d6a052fa50b2ca956ce29e7b9f8a8e8ed6023712dde765309da2ead4b2054b5e", func := "quillward/quilllaw.SuffixSays", spec := "suffixSays", inPlace := ["internal/bytealg.abigen_runtime_cmpstring"], unfollowed := true, recurses := true, apart := false, narrowed := true }
def SuffixSaysUptoSaid : Prop := suffixSaysUptoRow.holds Try.pinned (OpenSpec.upto suffixSaysSpec)

/-- 'quillkeep.SuffixCommon', WHERE WHAT IT READS IS OF BULK AT MOST 1048576: true; the input reads as it did. -/
def suffixCommonUptoRow : OpenClaim := { program := "ytcnfdmpggnhlgaa", sum := "d6a052fa50b2ca956ce29e7b9f8a8e8ed6023712dde765309da2ead4b2054b5e", func := "quillward/quillkeep.SuffixCommon", spec := "suffixCommon", inPlace := ["internal/bytealg.abigen_runtime_cmpstring"], unfollowed := true, recurses := true, apart := false, narrowed := true }
def SuffixCommonUptoSaid : Prop := suffixCommonUptoRow.holds Try.pinned (OpenSpec.upto suffixCommonSpec)

/-- 'quillkeep.SuffixUnlike', WHERE WHAT IT READS IS OF BULK AT MOST 1048576: true; the input reads as it did. -/
def suffixUnlikeUptoRow : OpenClaim := { program := "ytcnfdmpggnhlgaa", sum := "d6a052fa50b2ca956ce29e7b9f8a8e8ed6023712dde765309da2ead4b2054b5e", func := "quillward/quillkeep.SuffixUnlike", spec := "suffixUnlike", inPlace := ["internal/bytealg.abigen_runtime_cmpstring", "internal/abi.NoEscape", "internal/bytealg.MakeNoZero"], unfollowed := true, recurses := true, apart := false, narrowed := true }
def SuffixUnlikeUptoSaid : Prop := suffixUnlikeUptoRow.holds Try.pinned (OpenSpec.upto suffixUnlikeSpec)

/-- 'quillkeep.SuffixTwice', WHERE WHAT IT READS IS OF BULK AT MOST 1048576: true; the input reads as it did. -/
def suffixTwiceUptoRow : OpenClaim := { program := "ytcnfdmpggnhlgaa", sum := "d6a052fa50b2ca956ce29e7b9f8a8e8ed6023712dde765309da2ead4b2054b5e", func := "quillward/quillkeep.SuffixTwice", spec := "suffixTwice", inPlace := ["internal/bytealg.abigen_runtime_cmpstring", "internal/bytealg.IndexByteString", "internal/bytealg.IndexString"], unfollowed := true, recurses := true, named := ["internal/bytealg.MaxLen"], apart := false, narrowed := true }
def SuffixTwiceUptoSaid : Prop := suffixTwiceUptoRow.holds Try.pinned (OpenSpec.upto suffixTwiceSpec)

/-- 'quillkeep.LyndonSuffix', WHERE WHAT IT READS IS OF BULK AT MOST 1048576: true; the input reads as it did. -/
def lyndonSuffixUptoRow : OpenClaim := { program := "ytcnfdmpggnhlgaa", sum := "d6a052fa50b2ca956ce29e7b9f8a8e8ed6023712dde765309da2ead4b2054b5e", func := "quillward/quillkeep.LyndonSuffix", spec := "lyndonSuffix", inPlace := ["internal/bytealg.abigen_runtime_cmpstring"], unfollowed := true, recurses := true, apart := false, narrowed := true }
def LyndonSuffixUptoSaid : Prop := lyndonSuffixUptoRow.holds Try.pinned (OpenSpec.upto lyndonSuffixSpec)

/-- 'quillkeep.WordsOwn', WHERE WHAT IT READS IS OF BULK AT MOST 1048576: true; the input reads as it did. -/
def wordsOwnUptoRow : OpenClaim := { program := "ytcnfdmpggnhlgaa", sum := "d6a052fa50b2ca956ce29e7b9f8a8e8ed6023712dde765309da2ead4b2054b5e", func := "quillward/quillkeep.WordsOwn", spec := "wordsOwn", inPlace := ["internal/bytealg.abigen_runtime_cmpstring", "slices.overlaps[*quillward/trie.node]"], unfollowed := true, recurses := true, apart := false, narrowed := true }
def WordsOwnUptoSaid : Prop := wordsOwnUptoRow.holds Try.pinned (OpenSpec.upto wordsOwnSpec)

end Rows
end Go.Proofs.Ytcnfdmpggnhlgaa
