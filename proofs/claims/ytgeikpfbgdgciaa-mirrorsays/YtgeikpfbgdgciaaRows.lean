/-
  No cell of these rows narrows 'for every input' (looked for: loops, veiled, ifaces, maps, wideKeys, modest, calm, conditions, laid).
  DERIVED. THE GIVEN ROWS OF THIS SEAT. 4 by the template 'for every input the law returns true; each argument reads behind the call as it read before'; 0 by the template 'total and deterministic' (their statements: YtgeikpfbgdgciaaTotals.lean).
  GIVEN WITH THE SEED: the statements are not yours to turn. If you find one false, say at which input.
  Laid BY PROGRAM, IN A SANDBOX (cutbox-rows.mjs): the forced cells as the released guide's own fill.sh prints them over the translation 658cf2ef2511ed1b… (all of the seat's roots in one cut). By AI agents, Wed Nov 11 2026. No macro, syntax, notation, axiom, sorry.
-/
import Derived.Test.YtgeikpfbgdgciaaChecked
import GoSem.Claim
import GoSem.ClaimJoined
import GoSem.ClaimMapViews
import Derived.JoinedTies
import Derived.KernelRfl
namespace Go.Proofs.Ytgeikpfbgdgciaa
/- THE CELL 'sum', in the pinned program and in every row, IS THE sha256 OF THE DUMP (.gsa) THAT YtgeikpfbgdgciaaProg.lean LOADS. Nothing in Lean hashes anything: it is a label: what it is worth is what the hold of that sum in a sandbox is worth. -/
noncomputable def Try.pinned : Pinned := { name := "ytgeikpfbgdgciaa", sum := "658cf2ef2511ed1b4e4e9becdef5ed79be6e624f18220d306946fbe940b20334", checked := Try.checked }
namespace Rows
def none {H : Type} : Left H := { results := [], args := [] }

/-- 'quilllaw.MirrorSays': WHATEVER THE INPUT: true; the input reads as it did. -/
def mirrorSaysSpec : ChangeSpec := { name := "mirrorSays", fn := fun _ => fun
  | [d] => { results := [.lit (.bool true)], args := [d] }
  | _ => none }
def mirrorSaysRow : OpenClaim := { program := "ytgeikpfbgdgciaa", sum := "658cf2ef2511ed1b4e4e9becdef5ed79be6e624f18220d306946fbe940b20334", func := "quillward/quilllaw.MirrorSays", spec := "mirrorSays", inPlace := ["internal/bytealg.IndexByteString", "internal/bytealg.IndexString"], recurses := true, named := ["internal/bytealg.MaxLen"], apart := false }
def MirrorSaysSaid : Prop := mirrorSaysRow.holds Try.pinned (OpenSpec.ofChange mirrorSaysSpec)

/-- ITS FALSE NEIGHBOUR: 'it returns false'. Refute it at one input. -/
def mirrorSaysWrong : ChangeSpec := { name := "mirrorSays", fn := fun _ => fun
  | [d] => { results := [.lit (.bool false)], args := [d] }
  | _ => none }
def MirrorSaysWrongFalsely : Prop := mirrorSaysRow.holds Try.pinned (OpenSpec.ofChange mirrorSaysWrong)

/-- 'quillkeep.MirrorFew': WHATEVER THE INPUT: true; the input reads as it did. -/
def mirrorFewSpec : ChangeSpec := { name := "mirrorFew", fn := fun _ => fun
  | [d1, d2] => { results := [.lit (.bool true)], args := [d1, d2] }
  | _ => none }
def mirrorFewRow : OpenClaim := { program := "ytgeikpfbgdgciaa", sum := "658cf2ef2511ed1b4e4e9becdef5ed79be6e624f18220d306946fbe940b20334", func := "quillward/quillkeep.MirrorFew", spec := "mirrorFew", unfollowed := true, recurses := true, apart := false }
def MirrorFewSaid : Prop := mirrorFewRow.holds Try.pinned (OpenSpec.ofChange mirrorFewSpec)

/-- ITS FALSE NEIGHBOUR: 'it returns false'. Refute it at one input. -/
def mirrorFewWrong : ChangeSpec := { name := "mirrorFew", fn := fun _ => fun
  | [d1, d2] => { results := [.lit (.bool false)], args := [d1, d2] }
  | _ => none }
def MirrorFewWrongFalsely : Prop := mirrorFewRow.holds Try.pinned (OpenSpec.ofChange mirrorFewWrong)

/-- 'quillkeep.MirrorArms': WHATEVER THE INPUT: true; the input reads as it did. -/
def mirrorArmsSpec : ChangeSpec := { name := "mirrorArms", fn := fun _ => fun
  | [d1, d2] => { results := [.lit (.bool true)], args := [d1, d2] }
  | _ => none }
def mirrorArmsRow : OpenClaim := { program := "ytgeikpfbgdgciaa", sum := "658cf2ef2511ed1b4e4e9becdef5ed79be6e624f18220d306946fbe940b20334", func := "quillward/quillkeep.MirrorArms", spec := "mirrorArms", apart := false }
def MirrorArmsSaid : Prop := mirrorArmsRow.holds Try.pinned (OpenSpec.ofChange mirrorArmsSpec)

/-- ITS FALSE NEIGHBOUR: 'it returns false'. Refute it at one input. -/
def mirrorArmsWrong : ChangeSpec := { name := "mirrorArms", fn := fun _ => fun
  | [d1, d2] => { results := [.lit (.bool false)], args := [d1, d2] }
  | _ => none }
def MirrorArmsWrongFalsely : Prop := mirrorArmsRow.holds Try.pinned (OpenSpec.ofChange mirrorArmsWrong)

/-- 'quillkeep.MirrorLongest': WHATEVER THE INPUT: true; the input reads as it did. -/
def mirrorLongestSpec : ChangeSpec := { name := "mirrorLongest", fn := fun _ => fun
  | [d1, d2, d3] => { results := [.lit (.bool true)], args := [d1, d2, d3] }
  | _ => none }
def mirrorLongestRow : OpenClaim := { program := "ytgeikpfbgdgciaa", sum := "658cf2ef2511ed1b4e4e9becdef5ed79be6e624f18220d306946fbe940b20334", func := "quillward/quillkeep.MirrorLongest", spec := "mirrorLongest", inPlace := ["internal/bytealg.IndexByteString", "internal/bytealg.IndexString"], unfollowed := true, recurses := true, named := ["internal/bytealg.MaxLen"], apart := false }
def MirrorLongestSaid : Prop := mirrorLongestRow.holds Try.pinned (OpenSpec.ofChange mirrorLongestSpec)

/-- ITS FALSE NEIGHBOUR: 'it returns false'. Refute it at one input. -/
def mirrorLongestWrong : ChangeSpec := { name := "mirrorLongest", fn := fun _ => fun
  | [d1, d2, d3] => { results := [.lit (.bool false)], args := [d1, d2, d3] }
  | _ => none }
def MirrorLongestWrongFalsely : Prop := mirrorLongestRow.holds Try.pinned (OpenSpec.ofChange mirrorLongestWrong)

/- THE SECOND FORM. 'bulk': how many values and letters a reading holds, each counted each time it is reached (what is shared counts as often as it is met; a slice's spare places count too). A statement '..UptoSaid' is the law's where the arguments, and the package variables that the reading takes, are together of bulk at most 1048576: NARROWER than '..Said'. Prove '..Said' where nothing that the law and all that it calls make is longer than what came in: it says more and counts as full. Else prove '..UptoSaid'. A law counts once. -/
mutual
def uptoBulk {H : Type} : DataW H → Nat
  | .lit (.string bytes) => bytes.length + 1
  | .lit _ => 1
  | .nil => 1
  | .ptr d => uptoBulk d + 1
  | .slice elems spare => uptoBulkAll elems + uptoBulkAll spare + 1
  | .agg parts => uptoBulkAll parts + 1
  | .iface _ d => uptoBulk d + 1
  | .map entries => uptoBulkEntries entries + 1
  | .held _ => 1
def uptoBulkAll {H : Type} : List (DataW H) → Nat
  | [] => 0
  | d :: r => uptoBulk d + uptoBulkAll r
def uptoBulkEntries {H : Type} : List (Lit × DataW H) → Nat
  | [] => 0
  | x :: r => uptoBulkEntry x + uptoBulkEntries r
def uptoBulkEntry {H : Type} : Lit × DataW H → Nat
  | (.string bytes, d) => bytes.length + uptoBulk d + 1
  | (_, d) => uptoBulk d + 1
 end
def uptoSmall : (H : Type) → List (DataW H) → Bool := fun _ ds => decide (uptoBulkAll ds ≤ 1048576)
def OpenSpec.upto (s : _root_.Go.ChangeSpec) : _root_.Go.OpenSpec := { _root_.Go.OpenSpec.ofChange s with cond := some uptoSmall }

/-- 'quilllaw.MirrorSays', WHERE WHAT IT READS IS OF BULK AT MOST 1048576: true; the input reads as it did. -/
def mirrorSaysUptoRow : OpenClaim := { program := "ytgeikpfbgdgciaa", sum := "658cf2ef2511ed1b4e4e9becdef5ed79be6e624f18220d306946fbe940b20334", func := "quillward/quilllaw.MirrorSays", spec := "mirrorSays", inPlace := ["internal/bytealg.IndexByteString", "internal/bytealg.IndexString"], recurses := true, named := ["internal/bytealg.MaxLen"], apart := false, narrowed := true }
def MirrorSaysUptoSaid : Prop := mirrorSaysUptoRow.holds Try.pinned (OpenSpec.upto mirrorSaysSpec)

/-- 'quillkeep.MirrorFew', WHERE WHAT IT READS IS OF BULK AT MOST 1048576: true; the input reads as it did. -/
def mirrorFewUptoRow : OpenClaim := { program := "ytgeikpfbgdgciaa", sum := "658cf2ef2511ed1b4e4e9becdef5ed79be6e624f18220d306946fbe940b20334", func := "quillward/quillkeep.MirrorFew", spec := "mirrorFew", unfollowed := true, recurses := true, apart := false, narrowed := true }
def MirrorFewUptoSaid : Prop := mirrorFewUptoRow.holds Try.pinned (OpenSpec.upto mirrorFewSpec)

/-- 'quillkeep.MirrorArms', WHERE WHAT IT READS IS OF BULK AT MOST 1048576: true; the input reads as it did. -/
def mirrorArmsUptoRow : OpenClaim := { program := "ytgeikpfbgdgciaa", sum := "658cf2ef2511ed1b4e4e9becdef5ed79be6e624f18220d306946fbe940b20334", func := "quillward/quillkeep.MirrorArms", spec := "mirrorArms", apart := false, narrowed := true }
def MirrorArmsUptoSaid : Prop := mirrorArmsUptoRow.holds Try.pinned (OpenSpec.upto mirrorArmsSpec)

/-- 'quillkeep.MirrorLongest', WHERE WHAT IT READS IS OF BULK AT MOST 1048576: true; the input reads as it did. -/
def mirrorLongestUptoRow : OpenClaim := { program := "ytgeikpfbgdgciaa", sum := "658cf2ef2511ed1b4e4e9becdef5ed79be6e624f18220d306946fbe940b20334", func := "quillward/quillkeep.MirrorLongest", spec := "mirrorLongest", inPlace := ["internal/bytealg.IndexByteString", "internal/bytealg.IndexString"], unfollowed := true, recurses := true, named := ["internal/bytealg.MaxLen"], apart := false, narrowed := true }
def MirrorLongestUptoSaid : Prop := mirrorLongestUptoRow.holds Try.pinned (OpenSpec.upto mirrorLongestSpec)

end Rows
end Go.Proofs.Ytgeikpfbgdgciaa
