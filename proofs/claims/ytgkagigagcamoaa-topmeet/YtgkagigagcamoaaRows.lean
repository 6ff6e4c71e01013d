/-
  No cell of these rows narrows 'for every input' (looked for: loops, veiled, ifaces, maps, wideKeys, modest, calm, conditions, laid).
  DERIVED. THE GIVEN ROWS OF THIS SEAT. 8 by the template 'for every input the law returns true; each argument reads behind the call as it read before'; 0 by the template 'total and deterministic' (their statements: YtgkagigagcamoaaTotals.lean).
  GIVEN WITH THE SEED: the statements are not yours to turn. If you find one false, say at which input.
  Laid BY PROGRAM, IN A SANDBOX (cutbox-rows.mjs): the forced cells as the released guide's own fill.sh prints them over the translation 905c9b62086b39fe… (all of the seat's roots in one cut). By AI agents, Wed Nov 11 2026. No macro, syntax, notation, axiom, sorry.
-/
import Derived.Test.YtgkagigagcamoaaChecked
import GoSem.Claim
import GoSem.ClaimJoined
import GoSem.ClaimMapViews
import Derived.JoinedTies
import Derived.KernelRfl
namespace Go.Proofs.Ytgkagigagcamoaa
/- THE CELL 'sum', in the pinned program and in every row, IS THE sha256 OF THE DUMP (.gsa) THAT YtgkagigagcamoaaProg.lean LOADS. Nothing in Lean hashes anything: it is a label: what it is worth is what the hold of that sum in a sandbox is worth. -/
noncomputable def Try.pinned : Pinned := { name := "ytgkagigagcamoaa", sum := "905c9b62086b39fe5f1defb326e1341c26090696092dc646bfbcf8b2f5d98747", checked := Try.checked }
namespace Rows
def none {H : Type} : Left H := { results := [], args := [] }

/-- 'quilllaw.ShiftSays': WHATEVER THE INPUT: true; the input reads as it did. -/
def shiftSaysSpec : ChangeSpec := { name := "shiftSays", fn := fun _ => fun
  | [d1, d2, d3, d4, d5] => { results := [.lit (.bool true)], args := [d1, d2, d3, d4, d5] }
  | _ => none }
def shiftSaysRow : OpenClaim := { program := "ytgkagigagcamoaa", sum := "905c9b62086b39fe5f1defb326e1341c26090696092dc646bfbcf8b2f5d98747", func := "quillward/quilllaw.ShiftSays", spec := "shiftSays", apart := false }
def ShiftSaysSaid : Prop := shiftSaysRow.holds Try.pinned (OpenSpec.ofChange shiftSaysSpec)

/-- ITS FALSE NEIGHBOUR: 'it returns false'. Refute it at one input. -/
def shiftSaysWrong : ChangeSpec := { name := "shiftSays", fn := fun _ => fun
  | [d1, d2, d3, d4, d5] => { results := [.lit (.bool false)], args := [d1, d2, d3, d4, d5] }
  | _ => none }
def ShiftSaysWrongFalsely : Prop := shiftSaysRow.holds Try.pinned (OpenSpec.ofChange shiftSaysWrong)

/-- 'quilllaw.ShiftAll': WHATEVER THE INPUT: true; the input reads as it did. -/
def shiftAllSpec : ChangeSpec := { name := "shiftAll", fn := fun _ => fun
  | [d1, d2, d3] => { results := [.lit (.bool true)], args := [d1, d2, d3] }
  | _ => none }
def shiftAllRow : OpenClaim := { program := "ytgkagigagcamoaa", sum := "905c9b62086b39fe5f1defb326e1341c26090696092dc646bfbcf8b2f5d98747", func := "quillward/quilllaw.ShiftAll", spec := "shiftAll", apart := false }
def ShiftAllSaid : Prop := shiftAllRow.holds Try.pinned (OpenSpec.ofChange shiftAllSpec)

/-- ITS FALSE NEIGHBOUR: 'it returns false'. Refute it at one input. -/
def shiftAllWrong : ChangeSpec := { name := "shiftAll", fn := fun _ => fun
  | [d1, d2, d3] => { results := [.lit (.bool false)], args := [d1, d2, d3] }
  | _ => none }
def ShiftAllWrongFalsely : Prop := shiftAllRow.holds Try.pinned (OpenSpec.ofChange shiftAllWrong)

/-- 'quillkeep.ShiftTwo': WHATEVER THE INPUT: true; the input reads as it did. -/
def shiftTwoSpec : ChangeSpec := { name := "shiftTwo", fn := fun _ => fun
  | [d1, d2, d3] => { results := [.lit (.bool true)], args := [d1, d2, d3] }
  | _ => none }
def shiftTwoRow : OpenClaim := { program := "ytgkagigagcamoaa", sum := "905c9b62086b39fe5f1defb326e1341c26090696092dc646bfbcf8b2f5d98747", func := "quillward/quillkeep.ShiftTwo", spec := "shiftTwo", unfollowed := true, recurses := true, apart := false }
def ShiftTwoSaid : Prop := shiftTwoRow.holds Try.pinned (OpenSpec.ofChange shiftTwoSpec)

/-- ITS FALSE NEIGHBOUR: 'it returns false'. Refute it at one input. -/
def shiftTwoWrong : ChangeSpec := { name := "shiftTwo", fn := fun _ => fun
  | [d1, d2, d3] => { results := [.lit (.bool false)], args := [d1, d2, d3] }
  | _ => none }
def ShiftTwoWrongFalsely : Prop := shiftTwoRow.holds Try.pinned (OpenSpec.ofChange shiftTwoWrong)

/-- 'quillkeep.ShiftRows': WHATEVER THE INPUT: true; the input reads as it did. -/
def shiftRowsSpec : ChangeSpec := { name := "shiftRows", fn := fun _ => fun
  | [d1, d2, d3] => { results := [.lit (.bool true)], args := [d1, d2, d3] }
  | _ => none }
def shiftRowsRow : OpenClaim := { program := "ytgkagigagcamoaa", sum := "905c9b62086b39fe5f1defb326e1341c26090696092dc646bfbcf8b2f5d98747", func := "quillward/quillkeep.ShiftRows", spec := "shiftRows", apart := false }
def ShiftRowsSaid : Prop := shiftRowsRow.holds Try.pinned (OpenSpec.ofChange shiftRowsSpec)

/-- ITS FALSE NEIGHBOUR: 'it returns false'. Refute it at one input. -/
def shiftRowsWrong : ChangeSpec := { name := "shiftRows", fn := fun _ => fun
  | [d1, d2, d3] => { results := [.lit (.bool false)], args := [d1, d2, d3] }
  | _ => none }
def ShiftRowsWrongFalsely : Prop := shiftRowsRow.holds Try.pinned (OpenSpec.ofChange shiftRowsWrong)

/-- 'quillkeep.ShiftStays': WHATEVER THE INPUT: true; the input reads as it did. -/
def shiftStaysSpec : ChangeSpec := { name := "shiftStays", fn := fun _ => fun
  | [d1, d2, d3, d4] => { results := [.lit (.bool true)], args := [d1, d2, d3, d4] }
  | _ => none }
def shiftStaysRow : OpenClaim := { program := "ytgkagigagcamoaa", sum := "905c9b62086b39fe5f1defb326e1341c26090696092dc646bfbcf8b2f5d98747", func := "quillward/quillkeep.ShiftStays", spec := "shiftStays", apart := false }
def ShiftStaysSaid : Prop := shiftStaysRow.holds Try.pinned (OpenSpec.ofChange shiftStaysSpec)

/-- ITS FALSE NEIGHBOUR: 'it returns false'. Refute it at one input. -/
def shiftStaysWrong : ChangeSpec := { name := "shiftStays", fn := fun _ => fun
  | [d1, d2, d3, d4] => { results := [.lit (.bool false)], args := [d1, d2, d3, d4] }
  | _ => none }
def ShiftStaysWrongFalsely : Prop := shiftStaysRow.holds Try.pinned (OpenSpec.ofChange shiftStaysWrong)

/-- 'quillkeep.ShiftAlone': WHATEVER THE INPUT: true; the input reads as it did. -/
def shiftAloneSpec : ChangeSpec := { name := "shiftAlone", fn := fun _ => fun
  | [d1, d2, d3, d4] => { results := [.lit (.bool true)], args := [d1, d2, d3, d4] }
  | _ => none }
def shiftAloneRow : OpenClaim := { program := "ytgkagigagcamoaa", sum := "905c9b62086b39fe5f1defb326e1341c26090696092dc646bfbcf8b2f5d98747", func := "quillward/quillkeep.ShiftAlone", spec := "shiftAlone", apart := false }
def ShiftAloneSaid : Prop := shiftAloneRow.holds Try.pinned (OpenSpec.ofChange shiftAloneSpec)

/-- ITS FALSE NEIGHBOUR: 'it returns false'. Refute it at one input. -/
def shiftAloneWrong : ChangeSpec := { name := "shiftAlone", fn := fun _ => fun
  | [d1, d2, d3, d4] => { results := [.lit (.bool false)], args := [d1, d2, d3, d4] }
  | _ => none }
def ShiftAloneWrongFalsely : Prop := shiftAloneRow.holds Try.pinned (OpenSpec.ofChange shiftAloneWrong)

/-- 'quillkeep.OpsOwn': WHATEVER THE INPUT: true; the input reads as it did. -/
def opsOwnSpec : ChangeSpec := { name := "opsOwn", fn := fun _ => fun
  | [d1, d2, d3] => { results := [.lit (.bool true)], args := [d1, d2, d3] }
  | _ => none }
def opsOwnRow : OpenClaim := { program := "ytgkagigagcamoaa", sum := "905c9b62086b39fe5f1defb326e1341c26090696092dc646bfbcf8b2f5d98747", func := "quillward/quillkeep.OpsOwn", spec := "opsOwn", apart := false }
def OpsOwnSaid : Prop := opsOwnRow.holds Try.pinned (OpenSpec.ofChange opsOwnSpec)

/-- ITS FALSE NEIGHBOUR: 'it returns false'. Refute it at one input. -/
def opsOwnWrong : ChangeSpec := { name := "opsOwn", fn := fun _ => fun
  | [d1, d2, d3] => { results := [.lit (.bool false)], args := [d1, d2, d3] }
  | _ => none }
def OpsOwnWrongFalsely : Prop := opsOwnRow.holds Try.pinned (OpenSpec.ofChange opsOwnWrong)

/-- 'quilltop.TopMeet': WHATEVER THE INPUT: true; the input reads as it did. -/
def topMeetSpec : ChangeSpec := { name := "topMeet", fn := fun _ => fun
  | [d1, d2, d3] => { results := [.lit (.bool true)], args := [d1, d2, d3] }
  | _ => none }
def topMeetRow : OpenClaim := { program := "ytgkagigagcamoaa", sum := "905c9b62086b39fe5f1defb326e1341c26090696092dc646bfbcf8b2f5d98747", func := "quillward/quilltop.TopMeet", spec := "topMeet", inPlace := ["internal/bytealg.abigen_runtime_cmpstring", "internal/abi.NoEscape"], unfollowed := true, recurses := true, apart := false }
def TopMeetSaid : Prop := topMeetRow.holds Try.pinned (OpenSpec.ofChange topMeetSpec)

/-- ITS FALSE NEIGHBOUR: 'it returns false'. Refute it at one input. -/
def topMeetWrong : ChangeSpec := { name := "topMeet", fn := fun _ => fun
  | [d1, d2, d3] => { results := [.lit (.bool false)], args := [d1, d2, d3] }
  | _ => none }
def TopMeetWrongFalsely : Prop := topMeetRow.holds Try.pinned (OpenSpec.ofChange topMeetWrong)

/- THE SECOND FORM. 'bulk': how many values and letters a reading holds, each counted each time it is reached (what is shared counts as often as it is met; a slice's spare places count too). A statement '..UptoSaid' is the law's where the arguments, and the package variables that the reading takes, are together of bulk at most 1048576: NARROWER than '..Said'. Prove '..Said' where nothing that the law and all that it calls make is longer than what came in: it says more and counts as full. Else prove '..UptoSaid'. A law counts once. -/
mutual
def uptoBulk {H : Type} : DataW H → Nat
  | .lit (.string bytes) => bytes.length + 1
  | .lit _ => 1
  | .nil => 1
  | .ptr d => uptoBulk d + 1
  | .slice elems spare => uptoBulkAll elems + uptoBulkAll spare + 1
  | .agg parts => uptoBulkAll parts + 1
  | .iface _ d => uptoBulk d + 1
  | .map entries => uptoBulkEntries entries + 1
  | .held _ => 1
def uptoBulkAll {H : Type} : List (DataW H) → Nat
  | [] => 0
  | d :: r => uptoBulk d + uptoBulkAll r
def uptoBulkEntries {H : Type} : List (Lit × DataW H) → Nat
  | [] => 0
  | x :: r => uptoBulkEntry x + uptoBulkEntries r
def uptoBulkEntry {H : Type} : Lit × DataW H → Nat
  | (.string bytes, d) => bytes.length + uptoBulk d + 1
  | (_, d) => uptoBulk d + 1
 end
def uptoSmall : (H : Type) → List (DataW H) → Bool := fun _ ds => decide (uptoBulkAll ds ≤ 1048576)
def OpenSpec.upto (s : _root_.Go.ChangeSpec) : _root_.Go.OpenSpec := { _root_.Go.OpenSpec.ofChange s with cond := some uptoSmall }

/-- 'quilllaw.ShiftSays', WHERE WHAT IT READS IS OF BULK AT MOST 1048576: true; the input reads as it did. -/
def shiftSaysUptoRow : OpenClaim := { program := "ytgkagigagcamoaa", sum := "905c9b62086b39fe5f1defb326e1341c26090696092dc646bfbcf8b2f5d98747", func := "quillward/quilllaw.ShiftSays", spec := "shiftSays", apart := false, narrowed := true }
def ShiftSaysUptoSaid : Prop := shiftSaysUptoRow.holds Try.pinned (OpenSpec.upto shiftSaysSpec)

/-- 'quilllaw.ShiftAll', WHERE WHAT IT READS IS OF BULK AT MOST 1048576: true; the input reads as it did. -/
def shiftAllUptoRow : OpenClaim := { program := "ytgkagigagcamoaa", sum := "905c9b62086b39fe5f1defb326e1341c26090696092dc646bfbcf8b2f5d98747", func := "quillward/quilllaw.ShiftAll", spec := "shiftAll", apart := false, narrowed := true }
def ShiftAllUptoSaid : Prop := shiftAllUptoRow.holds Try.pinned (OpenSpec.upto shiftAllSpec)

/-- 'quillkeep.ShiftTwo', WHERE WHAT IT READS IS OF BULK AT MOST 1048576: true; the input reads as it did. -/
def shiftTwoUptoRow : OpenClaim := { program := "ytgkagigagcamoaa", sum := "905c9b62086b39fe5f1defb326e1341c26090696092dc646bfbcf8b2f5d98747", func := "quillward/quillkeep.ShiftTwo", spec := "shiftTwo", unfollowed := true, recurses := true, apart := false, narrowed := true }
def ShiftTwoUptoSaid : Prop := shiftTwoUptoRow.holds Try.pinned (OpenSpec.upto shiftTwoSpec)

/-- 'quillkeep.ShiftRows', WHERE WHAT IT READS IS OF BULK AT MOST 1048576: true; the input reads as it did. -/
def shiftRowsUptoRow : OpenClaim := { program := "ytgkagigagcamoaa", sum := "905c9b62086b39fe5f1defb326e1341c26090696092dc646bfbcf8b2f5d98747", func := "quillward/quillkeep.ShiftRows", spec := "shiftRows", apart := false, narrowed := true }
def ShiftRowsUptoSaid : Prop := shiftRowsUptoRow.holds Try.pinned (OpenSpec.upto shiftRowsSpec)

/-- 'quillkeep.ShiftStays', WHERE WHAT IT READS IS OF BULK AT MOST 1048576: true; the input reads as it did. -/
def shiftStaysUptoRow : OpenClaim := { program := "ytgkagigagcamoaa", sum := "905c9b62086b39fe5f1defb326e1341c26090696092dc646bfbcf8b2f5d98747", func := "quillward/quillkeep.ShiftStays", spec := "shiftStays", apart := false, narrowed := true }
def ShiftStaysUptoSaid : Prop := shiftStaysUptoRow.holds Try.pinned (OpenSpec.upto shiftStaysSpec)

/-- 'quillkeep.ShiftAlone', WHERE WHAT IT READS IS OF BULK AT MOST 1048576: true; the input reads as it did. -/
def shiftAloneUptoRow : OpenClaim := { program := "ytgkagigagcamoaa", sum := "905c9b62086b39fe5f1defb326e1341c26090696092dc646bfbcf8b2f5d98747", func := "quillward/quillkeep.ShiftAlone", spec := "shiftAlone", apart := false, narrowed := true }
def ShiftAloneUptoSaid : Prop := shiftAloneUptoRow.holds Try.pinned (OpenSpec.upto shiftAloneSpec)

/-- 'quillkeep.OpsOwn', WHERE WHAT IT READS IS OF BULK AT MOST 1048576: true; the input reads as it did. -/
def opsOwnUptoRow : OpenClaim := { program := "ytgkagigagcamoaa", sum := "905c9b62086b39fe5f1defb326e1341c26090696092dc646bfbcf8b2f5d98747", func := "quillward/quillkeep.OpsOwn", spec := "opsOwn", apart := false, narrowed := true }
def OpsOwnUptoSaid : Prop := opsOwnUptoRow.holds Try.pinned (OpenSpec.upto opsOwnSpec)

/-- 'quilltop.TopMeet', WHERE WHAT IT READS IS OF BULK AT MOST 1048576: true; the input reads as it did. -/
def topMeetUptoRow : OpenClaim := { program := "ytgkagigagcamoaa", sum := "905c9b62086b39fe5f1defb326e1341c26090696092dc646bfbcf8b2f5d98747", func := "quillward/quilltop.TopMeet", spec := "topMeet", inPlace := ["internal/bytealg.abigen_runtime_cmpstring", "internal/abi.NoEscape"], unfollowed := true, recurses := true, apart := false, narrowed := true }
def TopMeetUptoSaid : Prop := topMeetUptoRow.holds Try.pinned (OpenSpec.upto topMeetSpec)

end Rows
end Go.Proofs.Ytgkagigagcamoaa
