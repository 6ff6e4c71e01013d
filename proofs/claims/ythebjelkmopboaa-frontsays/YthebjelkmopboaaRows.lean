/-
  No cell of these rows narrows 'for every input' (looked for: loops, veiled, ifaces, maps, wideKeys, modest, calm, conditions, laid).
  DERIVED. THE GIVEN ROWS OF THIS SEAT. 6 by the template 'for every input the law returns true; each argument reads behind the call as it read before'; 0 by the template 'total and deterministic' (their statements: YthebjelkmopboaaTotals.lean).
  GIVEN WITH THE SEED: the statements are not yours to turn. If you find one false, say at which input.
  Laid BY PROGRAM, IN A SANDBOX (cutbox-rows.mjs): the forced cells as the released guide's own fill.sh prints them over the translation 0133171be0467542… (all of the seat's roots in one cut). By AI agents, Wed Nov 11 2026. No macro, syntax, notation, axiom, sorry.
-/
import Derived.Test.YthebjelkmopboaaChecked
import GoSem.Claim
import GoSem.ClaimJoined
import GoSem.ClaimMapViews
import Derived.JoinedTies
import Derived.KernelRfl
namespace Go.Proofs.Ythebjelkmopboaa
/- THE CELL 'sum', in the pinned program and in every row, IS THE sha256 OF THE DUMP (.gsa) THAT YthebjelkmopboaaProg.lean LOADS. Nothing in Lean hashes anything: it is a label: what it is worth is what the hold of that sum in a sandbox is worth. -/
noncomputable def Try.pinned : Pinned := { name := "ythebjelkmopboaa", sum := "0133171be046754202fde113f4c8593dfc24536ce6e0a4335c341bbd6f84126c", checked := Try.checked }
namespace Rows
def none {H : Type} : Left H := { results := [], args := [] }

/-- 'quilllaw.FrontSays': WHATEVER THE INPUT: true; the input reads as it did. -/
def frontSaysSpec : ChangeSpec := { name := "frontSays", fn := fun _ => fun
  | [d1, d2, d3] => { results := [.lit (.bool true)], args := [d1, d2, d3] }
  | _ => none }
def frontSaysRow : OpenClaim := { program := "ythebjelkmopboaa", sum := "0133171be046754202fde113f4c8593dfc24536ce6e0a4335c341bbd6f84126c", func := "quillward/quilllaw.FrontSays", spec := "frontSays", inPlace := ["internal/bytealg.IndexByte", "internal/bytealg.MakeNoZero", "internal/abi.NoEscape"], unfollowed := true, recurses := true, apart := false }
def FrontSaysSaid : Prop := frontSaysRow.holds Try.pinned (OpenSpec.ofChange frontSaysSpec)

/-- ITS FALSE NEIGHBOUR: 'it returns false'. Refute it at one input. -/
def frontSaysWrong : ChangeSpec := { name := "frontSays", fn := fun _ => fun
  | [d1, d2, d3] => { results := [.lit (.bool false)], args := [d1, d2, d3] }
  | _ => none }
def FrontSaysWrongFalsely : Prop := frontSaysRow.holds Try.pinned (OpenSpec.ofChange frontSaysWrong)

/-- 'quillkeep.FrontBack': WHATEVER THE INPUT: true; the input reads as it did. -/
def frontBackSpec : ChangeSpec := { name := "frontBack", fn := fun _ => fun
  | [d] => { results := [.lit (.bool true)], args := [d] }
  | _ => none }
def frontBackRow : OpenClaim := { program := "ythebjelkmopboaa", sum := "0133171be046754202fde113f4c8593dfc24536ce6e0a4335c341bbd6f84126c", func := "quillward/quillkeep.FrontBack", spec := "frontBack", inPlace := ["internal/bytealg.IndexByte"], apart := false }
def FrontBackSaid : Prop := frontBackRow.holds Try.pinned (OpenSpec.ofChange frontBackSpec)

/-- ITS FALSE NEIGHBOUR: 'it returns false'. Refute it at one input. -/
def frontBackWrong : ChangeSpec := { name := "frontBack", fn := fun _ => fun
  | [d] => { results := [.lit (.bool false)], args := [d] }
  | _ => none }
def FrontBackWrongFalsely : Prop := frontBackRow.holds Try.pinned (OpenSpec.ofChange frontBackWrong)

/-- 'quillkeep.FrontOne': WHATEVER THE INPUT: true; the input reads as it did. -/
def frontOneSpec : ChangeSpec := { name := "frontOne", fn := fun _ => fun
  | [d] => { results := [.lit (.bool true)], args := [d] }
  | _ => none }
def frontOneRow : OpenClaim := { program := "ythebjelkmopboaa", sum := "0133171be046754202fde113f4c8593dfc24536ce6e0a4335c341bbd6f84126c", func := "quillward/quillkeep.FrontOne", spec := "frontOne", inPlace := ["internal/bytealg.IndexByte"], apart := false }
def FrontOneSaid : Prop := frontOneRow.holds Try.pinned (OpenSpec.ofChange frontOneSpec)

/-- ITS FALSE NEIGHBOUR: 'it returns false'. Refute it at one input. -/
def frontOneWrong : ChangeSpec := { name := "frontOne", fn := fun _ => fun
  | [d] => { results := [.lit (.bool false)], args := [d] }
  | _ => none }
def FrontOneWrongFalsely : Prop := frontOneRow.holds Try.pinned (OpenSpec.ofChange frontOneWrong)

/-- 'quillkeep.RunsBack': WHATEVER THE INPUT: true; the input reads as it did. -/
def runsBackSpec : ChangeSpec := { name := "runsBack", fn := fun _ => fun
  | [d1, d2] => { results := [.lit (.bool true)], args := [d1, d2] }
  | _ => none }
def runsBackRow : OpenClaim := { program := "ythebjelkmopboaa", sum := "0133171be046754202fde113f4c8593dfc24536ce6e0a4335c341bbd6f84126c", func := "quillward/quillkeep.RunsBack", spec := "runsBack", inPlace := ["internal/bytealg.MakeNoZero"], apart := false }
def RunsBackSaid : Prop := runsBackRow.holds Try.pinned (OpenSpec.ofChange runsBackSpec)

/-- ITS FALSE NEIGHBOUR: 'it returns false'. Refute it at one input. -/
def runsBackWrong : ChangeSpec := { name := "runsBack", fn := fun _ => fun
  | [d1, d2] => { results := [.lit (.bool false)], args := [d1, d2] }
  | _ => none }
def RunsBackWrongFalsely : Prop := runsBackRow.holds Try.pinned (OpenSpec.ofChange runsBackWrong)

/-- 'quillkeep.RunsZero': WHATEVER THE INPUT: true; the input reads as it did. -/
def runsZeroSpec : ChangeSpec := { name := "runsZero", fn := fun _ => fun
  | [d] => { results := [.lit (.bool true)], args := [d] }
  | _ => none }
def runsZeroRow : OpenClaim := { program := "ythebjelkmopboaa", sum := "0133171be046754202fde113f4c8593dfc24536ce6e0a4335c341bbd6f84126c", func := "quillward/quillkeep.RunsZero", spec := "runsZero", inPlace := ["internal/bytealg.IndexByte"], apart := false }
def RunsZeroSaid : Prop := runsZeroRow.holds Try.pinned (OpenSpec.ofChange runsZeroSpec)

/-- ITS FALSE NEIGHBOUR: 'it returns false'. Refute it at one input. -/
def runsZeroWrong : ChangeSpec := { name := "runsZero", fn := fun _ => fun
  | [d] => { results := [.lit (.bool false)], args := [d] }
  | _ => none }
def RunsZeroWrongFalsely : Prop := runsZeroRow.holds Try.pinned (OpenSpec.ofChange runsZeroWrong)

/-- 'quillkeep.FrontFew': WHATEVER THE INPUT: true; the input reads as it did. -/
def frontFewSpec : ChangeSpec := { name := "frontFew", fn := fun _ => fun
  | [d] => { results := [.lit (.bool true)], args := [d] }
  | _ => none }
def frontFewRow : OpenClaim := { program := "ythebjelkmopboaa", sum := "0133171be046754202fde113f4c8593dfc24536ce6e0a4335c341bbd6f84126c", func := "quillward/quillkeep.FrontFew", spec := "frontFew", inPlace := ["internal/bytealg.IndexByte"], apart := false }
def FrontFewSaid : Prop := frontFewRow.holds Try.pinned (OpenSpec.ofChange frontFewSpec)

/-- ITS FALSE NEIGHBOUR: 'it returns false'. Refute it at one input. -/
def frontFewWrong : ChangeSpec := { name := "frontFew", fn := fun _ => fun
  | [d] => { results := [.lit (.bool false)], args := [d] }
  | _ => none }
def FrontFewWrongFalsely : Prop := frontFewRow.holds Try.pinned (OpenSpec.ofChange frontFewWrong)

/- THE SECOND FORM. 'bulk': how many values and letters a reading holds, each counted each time it is reached (what is shared counts as often as it is met; a slice's spare places count too). A statement '..UptoSaid' is the law's where the arguments, and the package variables that the reading takes, are together of bulk at most 1048576: NARROWER than '..Said'. Prove '..Said' where nothing that the law and all that it calls make is longer than what came in: it says more and counts as full. Else prove '..UptoSaid'. A law counts once. -/
mutual
def uptoBulk {H : Type} : DataW H → Nat
  | .lit (.string bytes) => bytes.length + 1
  | .lit _ => 1
  | .nil => 1
  | .ptr d => uptoBulk d + 1
  | .slice elems spare => uptoBulkAll elems + uptoBulkAll spare + 1
  | .agg parts => uptoBulkAll parts + 1
  | .iface _ d => uptoBulk d + 1
  | .map entries => uptoBulkEntries entries + 1
  | .held _ => 1
def uptoBulkAll {H : Type} : List (DataW H) → Nat
  | [] => 0
  | d :: r => uptoBulk d + uptoBulkAll r
def uptoBulkEntries {H : Type} : List (Lit × DataW H) → Nat
  | [] => 0
  | x :: r => uptoBulkEntry x + uptoBulkEntries r
def uptoBulkEntry {H : Type} : Lit × DataW H → Nat
  | (.string bytes, d) => bytes.length + uptoBulk d + 1
  | (_, d) => uptoBulk d + 1
 end
def uptoSmall : (H : Type) → List (DataW H) → Bool := fun _ ds => decide (uptoBulkAll ds ≤ 1048576)
def OpenSpec.upto (s : _root_.Go.ChangeSpec) : _root_.Go.OpenSpec := { _root_.Go.OpenSpec.ofChange s with cond := some uptoSmall }

/-- 'quilllaw.FrontSays', WHERE WHAT IT READS IS OF BULK AT MOST 1048576: true; the input reads as it did. -/
def frontSaysUptoRow : OpenClaim := { program := "ythebjelkmopboaa", sum := "0133171be046754202fde113f4c8593dfc24536ce6e0a4335c341bbd6f84126c", func := "quillward/quilllaw.FrontSays", spec := "frontSays", inPlace := ["internal/bytealg.IndexByte", "internal/bytealg.MakeNoZero", "internal/abi.NoEscape"], unfollowed := true, recurses := true, apart := false, narrowed := true }
def FrontSaysUptoSaid : Prop := frontSaysUptoRow.holds Try.pinned (OpenSpec.upto frontSaysSpec)

/-- 'quillkeep.FrontBack', WHERE WHAT IT READS IS OF BULK AT MOST 1048576: true; the input reads as it did. -/
def frontBackUptoRow : OpenClaim := { program := "ythebjelkmopboaa", sum := "0133171be046754202fde113f4c8593dfc24536ce6e0a4335c341bbd6f84126c", func := "quillward/quillkeep.FrontBack", spec := "frontBack", inPlace := ["internal/bytealg.IndexByte"], apart := false, narrowed := true }
def FrontBackUptoSaid : Prop := frontBackUptoRow.holds Try.pinned (OpenSpec.upto frontBackSpec)

/-- 'quillkeep.FrontOne', WHERE WHAT IT READS IS OF BULK AT MOST 1048576: true; the input reads as it did. -/
def frontOneUptoRow : OpenClaim := { program := "ythebjelkmopboaa", sum := "0133171be046754202fde113f4c8593dfc24536ce6e0a4335c341bbd6f84126c", func := "quillward/quillkeep.FrontOne", spec := "frontOne", inPlace := ["internal/bytealg.IndexByte"], apart := false, narrowed := true }
def FrontOneUptoSaid : Prop := frontOneUptoRow.holds Try.pinned (OpenSpec.upto frontOneSpec)

/-- 'quillkeep.RunsBack', WHERE WHAT IT READS IS OF BULK AT MOST 1048576: true; the input reads as it did. -/
def runsBackUptoRow : OpenClaim := { program := "ythebjelkmopboaa", sum := "0133171be046754202fde113f4c8593dfc24536ce6e0a4335c341bbd6f84126c", func := "quillward/quillkeep.RunsBack", spec := "runsBack", inPlace := ["internal/bytealg.MakeNoZero"], apart := false, narrowed := true }
def RunsBackUptoSaid : Prop := runsBackUptoRow.holds Try.pinned (OpenSpec.upto runsBackSpec)

/-- 'quillkeep.RunsZero', WHERE WHAT IT READS IS OF BULK AT MOST 1048576: true; the input reads as it did. -/
def runsZeroUptoRow : OpenClaim := { program := "ythebjelkmopboaa", sum := "0133171be046754202fde113f4c8593dfc24536ce6e0a4335c341bbd6f84126c", func := "quillward/quillkeep.RunsZero", spec := "runsZero", inPlace := ["internal/bytealg.IndexByte"], apart := false, narrowed := true }
def RunsZeroUptoSaid : Prop := runsZeroUptoRow.holds Try.pinned (OpenSpec.upto runsZeroSpec)

/-- 'quillkeep.FrontFew', WHERE WHAT IT READS IS OF BULK AT MOST 1048576: true; the input reads as it did. -/
def frontFewUptoRow : OpenClaim := { program := "ythebjelkmopboaa", sum := "0133171be046754202fde113f4c8593dfc24536ce6e0a4335c341bbd6f84126c", func := "quillward/quillkeep.FrontFew", spec := "frontFew", inPlace := ["internal/bytealg.IndexByte"], apart := false, narrowed := true }
def FrontFewUptoSaid : Prop := frontFewUptoRow.holds Try.pinned (OpenSpec.upto frontFewSpec)

end Rows
end Go.Proofs.Ythebjelkmopboaa
