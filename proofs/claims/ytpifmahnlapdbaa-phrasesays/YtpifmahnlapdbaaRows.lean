/-
  No cell of these rows narrows 'for every input' (looked for: loops, veiled, ifaces, maps, wideKeys, modest, calm, conditions, laid).
  DERIVED. THE GIVEN ROWS OF THIS SEAT. 4 by the template 'for every input the law returns true; each argument reads behind the call as it read before'; 0 by the template 'total and deterministic' (their statements: YtpifmahnlapdbaaTotals.lean).
  GIVEN WITH THE SEED: the statements are not yours to turn. If you find one false, say at which input.
  Laid BY PROGRAM, IN A SANDBOX (cutbox-rows.mjs): the forced cells as the released guide's own fill.sh prints them over the translation a8adac450e69568d… (all of the seat's roots in one cut). By AI agents, Wed Nov 11 2026. No macro, syntax, notation, axiom, sorry.
-/
import Derived.Test.YtpifmahnlapdbaaChecked
import GoSem.Claim
import GoSem.ClaimJoined
import GoSem.ClaimMapViews
import Derived.JoinedTies
import Derived.KernelRfl
namespace Go.Proofs.Ytpifmahnlapdbaa
/- THE CELL 'sum', in the pinned program and in every row, IS THE sha256 OF THE DUMP (.gsa) THAT YtpifmahnlapdbaaProg.lean LOADS. Nothing in Lean hashes anything: it is a label: what it is worth is what the hold of that sum in a sandbox is worth. -/
noncomputable def Try.pinned : Pinned := { name := "ytpifmahnlapdbaa", sum := "a8adac450e69568dd3e8bf28512c8034e70f888e0c50a954294184d3138ea975", checked := Try.checked }
namespace Rows
def none {H : Type} : Left H := { results := [], args := [] }

/-- 'quilllaw.PhraseSays': WHATEVER THE INPUT: true; the input reads as it did. -/
def phraseSaysSpec : ChangeSpec := { name := "phraseSays", fn := fun _ => fun
  | [d1, d2, d3] => { results := [.lit (.bool true)], args := [d1, d2, d3] }
  | _ => none }
def phraseSaysRow : OpenClaim := { program := "ytpifmahnlapdbaa", sum := "a8adac450e69568dd3e8bf28512c8034e70f888e0c50a954294184d3138ea975", func := "quillward/quilllaw.PhraseSays", spec := "phraseSays", plainKeys := false, apart := false }
def PhraseSaysSaid : Prop := phraseSaysRow.holds Try.pinned (OpenSpec.ofChange phraseSaysSpec)

/-- ITS FALSE NEIGHBOUR: 'it returns false'. Refute it at one input. -/
def phraseSaysWrong : ChangeSpec := { name := "phraseSays", fn := fun _ => fun
  | [d1, d2, d3] => { results := [.lit (.bool false)], args := [d1, d2, d3] }
  | _ => none }
def PhraseSaysWrongFalsely : Prop := phraseSaysRow.holds Try.pinned (OpenSpec.ofChange phraseSaysWrong)

/-- 'quillkeep.PhraseBack': WHATEVER THE INPUT: true; the input reads as it did. -/
def phraseBackSpec : ChangeSpec := { name := "phraseBack", fn := fun _ => fun
  | [d] => { results := [.lit (.bool true)], args := [d] }
  | _ => none }
def phraseBackRow : OpenClaim := { program := "ytpifmahnlapdbaa", sum := "a8adac450e69568dd3e8bf28512c8034e70f888e0c50a954294184d3138ea975", func := "quillward/quillkeep.PhraseBack", spec := "phraseBack", unfollowed := true, recurses := true, plainKeys := false, apart := false }
def PhraseBackSaid : Prop := phraseBackRow.holds Try.pinned (OpenSpec.ofChange phraseBackSpec)

/-- ITS FALSE NEIGHBOUR: 'it returns false'. Refute it at one input. -/
def phraseBackWrong : ChangeSpec := { name := "phraseBack", fn := fun _ => fun
  | [d] => { results := [.lit (.bool false)], args := [d] }
  | _ => none }
def PhraseBackWrongFalsely : Prop := phraseBackRow.holds Try.pinned (OpenSpec.ofChange phraseBackWrong)

/-- 'quillkeep.PhraseFew': WHATEVER THE INPUT: true; the input reads as it did. -/
def phraseFewSpec : ChangeSpec := { name := "phraseFew", fn := fun _ => fun
  | [d1, d2] => { results := [.lit (.bool true)], args := [d1, d2] }
  | _ => none }
def phraseFewRow : OpenClaim := { program := "ytpifmahnlapdbaa", sum := "a8adac450e69568dd3e8bf28512c8034e70f888e0c50a954294184d3138ea975", func := "quillward/quillkeep.PhraseFew", spec := "phraseFew", inPlace := ["internal/abi.NoEscape", "internal/bytealg.MakeNoZero"], plainKeys := false, apart := false }
def PhraseFewSaid : Prop := phraseFewRow.holds Try.pinned (OpenSpec.ofChange phraseFewSpec)

/-- ITS FALSE NEIGHBOUR: 'it returns false'. Refute it at one input. -/
def phraseFewWrong : ChangeSpec := { name := "phraseFew", fn := fun _ => fun
  | [d1, d2] => { results := [.lit (.bool false)], args := [d1, d2] }
  | _ => none }
def PhraseFewWrongFalsely : Prop := phraseFewRow.holds Try.pinned (OpenSpec.ofChange phraseFewWrong)

/-- 'quillkeep.PhraseFront': WHATEVER THE INPUT: true; the input reads as it did. -/
def phraseFrontSpec : ChangeSpec := { name := "phraseFront", fn := fun _ => fun
  | [d1, d2] => { results := [.lit (.bool true)], args := [d1, d2] }
  | _ => none }
def phraseFrontRow : OpenClaim := { program := "ytpifmahnlapdbaa", sum := "a8adac450e69568dd3e8bf28512c8034e70f888e0c50a954294184d3138ea975", func := "quillward/quillkeep.PhraseFront", spec := "phraseFront", unfollowed := true, recurses := true, plainKeys := false, apart := false }
def PhraseFrontSaid : Prop := phraseFrontRow.holds Try.pinned (OpenSpec.ofChange phraseFrontSpec)

/-- ITS FALSE NEIGHBOUR: 'it returns false'. Refute it at one input. -/
def phraseFrontWrong : ChangeSpec := { name := "phraseFront", fn := fun _ => fun
  | [d1, d2] => { results := [.lit (.bool false)], args := [d1, d2] }
  | _ => none }
def PhraseFrontWrongFalsely : Prop := phraseFrontRow.holds Try.pinned (OpenSpec.ofChange phraseFrontWrong)

/- THE SECOND FORM. 'bulk': how many values and letters a reading holds, each counted each time it is reached (what is shared counts as often as it is met; a slice's spare places count too). A statement '..UptoSaid' is the law's where the arguments, and the package variables that the reading takes, are together of bulk at most 1048576: NARROWER than '..Said'. Prove '..Said' where nothing that the law and all that it calls make is longer than what came in: it says more and counts as full. Else prove '..UptoSaid'. A law counts once. -/
mutual
def uptoBulk {H : Type} : DataW H → Nat
  | .lit (.string bytes) => bytes.length + 1
  | .lit _ => 1
  | .nil => 1
  | .ptr d => uptoBulk d + 1
  | .slice elems spare => uptoBulkAll elems + uptoBulkAll spare + 1
  | .agg parts => uptoBulkAll parts + 1
  | .iface _ d => uptoBulk d + 1
  | .map entries => uptoBulkEntries entries + 1
  | .held _ => 1
def uptoBulkAll {H : Type} : List (DataW H) → Nat
  | [] => 0
  | d :: r => uptoBulk d + uptoBulkAll r
def uptoBulkEntries {H : Type} : List (Lit × DataW H) → Nat
  | [] => 0
  | x :: r => uptoBulkEntry x + uptoBulkEntries r
def uptoBulkEntry {H : Type} : Lit × DataW H → Nat
  | (.string bytes, d) => bytes.length + uptoBulk d + 1
  | (_, d) => uptoBulk d + 1
 end
def uptoSmall : (H : Type) → List (DataW H) → Bool := fun _ ds => decide (uptoBulkAll ds ≤ 1048576)
def OpenSpec.upto (s : _root_.Go.ChangeSpec) : _root_.Go.OpenSpec := { _root_.Go.OpenSpec.ofChange s with cond := some uptoSmall }

/-- 'quilllaw.PhraseSays', WHERE WHAT IT READS IS OF BULK AT MOST 1048576: true; the input reads as it did. -/
def phraseSaysUptoRow : OpenClaim := { program := "ytpifmahnlapdbaa", sum := "a8adac450e69568dd3e8bf28512c8034e70f888e0c50a954294184d3138ea975", func := "quillward/quilllaw.PhraseSays", spec := "phraseSays", plainKeys := false, apart := false, narrowed := true }
def PhraseSaysUptoSaid : Prop := phraseSaysUptoRow.holds Try.pinned (OpenSpec.upto phraseSaysSpec)

/-- 'quillkeep.PhraseBack', WHERE WHAT IT READS IS OF BULK AT MOST 1048576: true; the input reads as it did. -/
def phraseBackUptoRow : OpenClaim := { program := "ytpifmahnlapdbaa", sum := "a8adac450e69568dd3e8bf28512c8034e70f888e0c50a954294184d3138ea975", func := "quillward/quillkeep.PhraseBack", spec := "phraseBack", unfollowed := true, recurses := true, plainKeys := false, apart := false, narrowed := true }
def PhraseBackUptoSaid : Prop := phraseBackUptoRow.holds Try.pinned (OpenSpec.upto phraseBackSpec)

/-- 'quillkeep.PhraseFew', WHERE WHAT IT READS IS OF BULK AT MOST 1048576: true; the input reads as it did. -/
def phraseFewUptoRow : OpenClaim := { program := "ytpifmahnlapdbaa", sum := "a8adac450e69568dd3e8bf28512c8034e70f888e0c50a954294184d3138ea975", func := "quillward/quillkeep.PhraseFew", spec := "phraseFew", inPlace := ["internal/abi.NoEscape", "internal/bytealg.MakeNoZero"], plainKeys := false, apart := false, narrowed := true }
def PhraseFewUptoSaid : Prop := phraseFewUptoRow.holds Try.pinned (OpenSpec.upto phraseFewSpec)

/-- 'quillkeep.PhraseFront', WHERE WHAT IT READS IS OF BULK AT MOST 1048576: true; the input reads as it did. -/
def phraseFrontUptoRow : OpenClaim := { program := "ytpifmahnlapdbaa", sum := "a8adac450e69568dd3e8bf28512c8034e70f888e0c50a954294184d3138ea975", func := "quillward/quillkeep.PhraseFront", spec := "phraseFront", unfollowed := true, recurses := true, plainKeys := false, apart := false, narrowed := true }
def PhraseFrontUptoSaid : Prop := phraseFrontUptoRow.holds Try.pinned (OpenSpec.upto phraseFrontSpec)

end Rows
end Go.Proofs.Ytpifmahnlapdbaa
