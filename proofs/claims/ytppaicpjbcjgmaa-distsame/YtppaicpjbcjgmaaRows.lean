/-
  No cell of these rows narrows 'for every input' (looked for: loops, veiled, ifaces, maps, wideKeys, modest, calm, conditions, laid).
  DERIVED. THE GIVEN ROWS OF THIS SEAT. 7 by the template 'for every input the law returns true; each argument reads behind the call as it read before'; 0 by the template 'total and deterministic' (their statements: YtppaicpjbcjgmaaTotals.lean).
  GIVEN WITH THE SEED: the statements are not yours to turn. If you find one false, say at which input.
  Laid BY PROGRAM, IN A SANDBOX (cutbox-rows.mjs): the forced cells as the released guide's own fill.sh prints them over the translation f25a792b53949145… (all of the seat's roots in one cut). By AI agents, Wed Nov 11 2026. No macro, syntax, notation, axiom, sorry.
-/
import Derived.Test.YtppaicpjbcjgmaaChecked
import GoSem.Claim
import GoSem.ClaimJoined
import GoSem.ClaimMapViews
import Derived.JoinedTies
import Derived.KernelRfl
namespace Go.Proofs.Ytppaicpjbcjgmaa
/- THE CELL 'sum', in the pinned program and in every row, IS THE sha256 OF THE DUMP (.gsa) THAT YtppaicpjbcjgmaaProg.lean LOADS. Nothing in Lean hashes anything: it is a label: what it is worth is what the hold of that sum in a sandbox is worth. -/
noncomputable def Try.pinned : Pinned := { name := "ytppaicpjbcjgmaa", sum := "f25a792b539491458548ccea29e678864daa65dc7cb55ca35711b8ede323a692", checked := Try.checked }
namespace Rows
def none {H : Type} : Left H := { results := [], args := [] }

/-- 'quilllaw.DistSays': WHATEVER THE INPUT: true; the input reads as it did. -/
def distSaysSpec : ChangeSpec := { name := "distSays", fn := fun _ => fun
  | [d1, d2, d3, d4] => { results := [.lit (.bool true)], args := [d1, d2, d3, d4] }
  | _ => none }
def distSaysRow : OpenClaim := { program := "ytppaicpjbcjgmaa", sum := "f25a792b539491458548ccea29e678864daa65dc7cb55ca35711b8ede323a692", func := "quillward/quilllaw.DistSays", spec := "distSays", apart := false }
def DistSaysSaid : Prop := distSaysRow.holds Try.pinned (OpenSpec.ofChange distSaysSpec)

/-- ITS FALSE NEIGHBOUR: 'it returns false'. Refute it at one input. -/
def distSaysWrong : ChangeSpec := { name := "distSays", fn := fun _ => fun
  | [d1, d2, d3, d4] => { results := [.lit (.bool false)], args := [d1, d2, d3, d4] }
  | _ => none }
def DistSaysWrongFalsely : Prop := distSaysRow.holds Try.pinned (OpenSpec.ofChange distSaysWrong)

/-- 'quillkeep.DistMetric': WHATEVER THE INPUT: true; the input reads as it did. -/
def distMetricSpec : ChangeSpec := { name := "distMetric", fn := fun _ => fun
  | [d1, d2, d3] => { results := [.lit (.bool true)], args := [d1, d2, d3] }
  | _ => none }
def distMetricRow : OpenClaim := { program := "ytppaicpjbcjgmaa", sum := "f25a792b539491458548ccea29e678864daa65dc7cb55ca35711b8ede323a692", func := "quillward/quillkeep.DistMetric", spec := "distMetric", apart := false }
def DistMetricSaid : Prop := distMetricRow.holds Try.pinned (OpenSpec.ofChange distMetricSpec)

/-- ITS FALSE NEIGHBOUR: 'it returns false'. Refute it at one input. -/
def distMetricWrong : ChangeSpec := { name := "distMetric", fn := fun _ => fun
  | [d1, d2, d3] => { results := [.lit (.bool false)], args := [d1, d2, d3] }
  | _ => none }
def DistMetricWrongFalsely : Prop := distMetricRow.holds Try.pinned (OpenSpec.ofChange distMetricWrong)

/-- 'quillkeep.DistSame': WHATEVER THE INPUT: true; the input reads as it did. -/
def distSameSpec : ChangeSpec := { name := "distSame", fn := fun _ => fun
  | [d1, d2] => { results := [.lit (.bool true)], args := [d1, d2] }
  | _ => none }
def distSameRow : OpenClaim := { program := "ytppaicpjbcjgmaa", sum := "f25a792b539491458548ccea29e678864daa65dc7cb55ca35711b8ede323a692", func := "quillward/quillkeep.DistSame", spec := "distSame", unfollowed := true, recurses := true, apart := false }
def DistSameSaid : Prop := distSameRow.holds Try.pinned (OpenSpec.ofChange distSameSpec)

/-- ITS FALSE NEIGHBOUR: 'it returns false'. Refute it at one input. -/
def distSameWrong : ChangeSpec := { name := "distSame", fn := fun _ => fun
  | [d1, d2] => { results := [.lit (.bool false)], args := [d1, d2] }
  | _ => none }
def DistSameWrongFalsely : Prop := distSameRow.holds Try.pinned (OpenSpec.ofChange distSameWrong)

/-- 'quillkeep.DistJoins': WHATEVER THE INPUT: true; the input reads as it did. -/
def distJoinsSpec : ChangeSpec := { name := "distJoins", fn := fun _ => fun
  | [d1, d2, d3, d4] => { results := [.lit (.bool true)], args := [d1, d2, d3, d4] }
  | _ => none }
def distJoinsRow : OpenClaim := { program := "ytppaicpjbcjgmaa", sum := "f25a792b539491458548ccea29e678864daa65dc7cb55ca35711b8ede323a692", func := "quillward/quillkeep.DistJoins", spec := "distJoins", unfollowed := true, recurses := true, apart := false }
def DistJoinsSaid : Prop := distJoinsRow.holds Try.pinned (OpenSpec.ofChange distJoinsSpec)

/-- ITS FALSE NEIGHBOUR: 'it returns false'. Refute it at one input. -/
def distJoinsWrong : ChangeSpec := { name := "distJoins", fn := fun _ => fun
  | [d1, d2, d3, d4] => { results := [.lit (.bool false)], args := [d1, d2, d3, d4] }
  | _ => none }
def DistJoinsWrongFalsely : Prop := distJoinsRow.holds Try.pinned (OpenSpec.ofChange distJoinsWrong)

/-- 'quillkeep.DistSwaps': WHATEVER THE INPUT: true; the input reads as it did. -/
def distSwapsSpec : ChangeSpec := { name := "distSwaps", fn := fun _ => fun
  | [d1, d2, d3] => { results := [.lit (.bool true)], args := [d1, d2, d3] }
  | _ => none }
def distSwapsRow : OpenClaim := { program := "ytppaicpjbcjgmaa", sum := "f25a792b539491458548ccea29e678864daa65dc7cb55ca35711b8ede323a692", func := "quillward/quillkeep.DistSwaps", spec := "distSwaps", unfollowed := true, recurses := true, apart := false }
def DistSwapsSaid : Prop := distSwapsRow.holds Try.pinned (OpenSpec.ofChange distSwapsSpec)

/-- ITS FALSE NEIGHBOUR: 'it returns false'. Refute it at one input. -/
def distSwapsWrong : ChangeSpec := { name := "distSwaps", fn := fun _ => fun
  | [d1, d2, d3] => { results := [.lit (.bool false)], args := [d1, d2, d3] }
  | _ => none }
def DistSwapsWrongFalsely : Prop := distSwapsRow.holds Try.pinned (OpenSpec.ofChange distSwapsWrong)

/-- 'quillkeep.DistNear': WHATEVER THE INPUT: true; the input reads as it did. -/
def distNearSpec : ChangeSpec := { name := "distNear", fn := fun _ => fun
  | [d1, d2, d3, d4, d5] => { results := [.lit (.bool true)], args := [d1, d2, d3, d4, d5] }
  | _ => none }
def distNearRow : OpenClaim := { program := "ytppaicpjbcjgmaa", sum := "f25a792b539491458548ccea29e678864daa65dc7cb55ca35711b8ede323a692", func := "quillward/quillkeep.DistNear", spec := "distNear", unfollowed := true, recurses := true, apart := false }
def DistNearSaid : Prop := distNearRow.holds Try.pinned (OpenSpec.ofChange distNearSpec)

/-- ITS FALSE NEIGHBOUR: 'it returns false'. Refute it at one input. -/
def distNearWrong : ChangeSpec := { name := "distNear", fn := fun _ => fun
  | [d1, d2, d3, d4, d5] => { results := [.lit (.bool false)], args := [d1, d2, d3, d4, d5] }
  | _ => none }
def DistNearWrongFalsely : Prop := distNearRow.holds Try.pinned (OpenSpec.ofChange distNearWrong)

/-- 'quillkeep.DistTurned': WHATEVER THE INPUT: true; the input reads as it did. -/
def distTurnedSpec : ChangeSpec := { name := "distTurned", fn := fun _ => fun
  | [d1, d2, d3] => { results := [.lit (.bool true)], args := [d1, d2, d3] }
  | _ => none }
def distTurnedRow : OpenClaim := { program := "ytppaicpjbcjgmaa", sum := "f25a792b539491458548ccea29e678864daa65dc7cb55ca35711b8ede323a692", func := "quillward/quillkeep.DistTurned", spec := "distTurned", apart := false }
def DistTurnedSaid : Prop := distTurnedRow.holds Try.pinned (OpenSpec.ofChange distTurnedSpec)

/-- ITS FALSE NEIGHBOUR: 'it returns false'. Refute it at one input. -/
def distTurnedWrong : ChangeSpec := { name := "distTurned", fn := fun _ => fun
  | [d1, d2, d3] => { results := [.lit (.bool false)], args := [d1, d2, d3] }
  | _ => none }
def DistTurnedWrongFalsely : Prop := distTurnedRow.holds Try.pinned (OpenSpec.ofChange distTurnedWrong)

/- THE SECOND FORM. 'bulk': how many values and letters a reading holds, each counted each time it is reached (what is shared counts as often as it is met; a slice's spare places count too). A statement '..UptoSaid' is the law's where the arguments, and the package variables that the reading takes, are together of bulk at most 1048576: NARROWER than '..Said'. Prove '..Said' where nothing that the law and all that it calls make is longer than what came in: it says more and counts as full. Else prove '..UptoSaid'. A law counts once. -/
mutual
def uptoBulk {H : Type} : DataW H → Nat
  | .lit (.string bytes) => bytes.length + 1
  | .lit _ => 1
  | .nil => 1
  | .ptr d => uptoBulk d + 1
  | .slice elems spare => uptoBulkAll elems + uptoBulkAll spare + 1
  | .agg parts => uptoBulkAll parts + 1
  | .iface _ d => uptoBulk d + 1
  | .map entries => uptoBulkEntries entries + 1
  | .held _ => 1
def uptoBulkAll {H : Type} : List (DataW H) → Nat
  | [] => 0
  | d :: r => uptoBulk d + uptoBulkAll r
def uptoBulkEntries {H : Type} : List (Lit × DataW H) → Nat
  | [] => 0
  | x :: r => uptoBulkEntry x + uptoBulkEntries r
def uptoBulkEntry {H : Type} : Lit × DataW H → Nat
  | (.string bytes, d) => bytes.length + uptoBulk d + 1
  | (_, d) => uptoBulk d + 1
 end
def uptoSmall : (H : Type) → List (DataW H) → Bool := fun _ ds => decide (uptoBulkAll ds ≤ 1048576)
def OpenSpec.upto (s : _root_.Go.ChangeSpec) : _root_.Go.OpenSpec := { _root_.Go.OpenSpec.ofChange s with cond := some uptoSmall }

/-- 'quilllaw.DistSays', WHERE WHAT IT READS IS OF BULK AT MOST 1048576: true; the input reads as it did. -/
def distSaysUptoRow : OpenClaim := { program := "ytppaicpjbcjgmaa", sum := "f25a792b539491458548ccea29e678864daa65dc7cb55ca35711b8ede323a692", func := "quillward/quilllaw.DistSays", spec := "distSays", apart := false, narrowed := true }
def DistSaysUptoSaid : Prop := distSaysUptoRow.holds Try.pinned (OpenSpec.upto distSaysSpec)

/-- 'quillkeep.DistMetric', WHERE WHAT IT READS IS OF BULK AT MOST 1048576: true; the input reads as it did. -/
def distMetricUptoRow : OpenClaim := { program := "ytppaicpjbcjgmaa", sum := "f25a792b539491458548ccea29e678864daa65dc7cb55ca35711b8ede323a692", func := "quillward/quillkeep.DistMetric", spec := "distMetric", apart := false, narrowed := true }
def DistMetricUptoSaid : Prop := distMetricUptoRow.holds Try.pinned (OpenSpec.upto distMetricSpec)

/-- 'quillkeep.DistSame', WHERE WHAT IT READS IS OF BULK AT MOST 1048576: true; the input reads as it did. -/
def distSameUptoRow : OpenClaim := { program := "ytppaicpjbcjgmaa", sum := "f25a792b539491458548ccea29e678864daa65dc7cb55ca35711b8ede323a692", func := "quillward/quillkeep.DistSame", spec := "distSame", unfollowed := true, recurses := true, apart := false, narrowed := true }
def DistSameUptoSaid : Prop := distSameUptoRow.holds Try.pinned (OpenSpec.upto distSameSpec)

/-- 'quillkeep.DistJoins', WHERE WHAT IT READS IS OF BULK AT MOST 1048576: true; the input reads as it did. -/
def distJoinsUptoRow : OpenClaim := { program := "ytppaicpjbcjgmaa", sum := "f25a792b539491458548ccea29e678864daa65dc7cb55ca35711b8ede323a692", func := "quillward/quillkeep.DistJoins", spec := "distJoins", unfollowed := true, recurses := true, apart := false, narrowed := true }
def DistJoinsUptoSaid : Prop := distJoinsUptoRow.holds Try.pinned (OpenSpec.upto distJoinsSpec)

/-- 'quillkeep.DistSwaps', WHERE WHAT IT READS IS OF BULK AT MOST 1048576: true; the input reads as it did. -/
def distSwapsUptoRow : OpenClaim := { program := "ytppaicpjbcjgmaa", sum := "f25a792b539491458548ccea29e678864daa65dc7cb55ca35711b8ede323a692", func := "quillward/quillkeep.DistSwaps", spec := "distSwaps", unfollowed := true, recurses := true, apart := false, narrowed := true }
def DistSwapsUptoSaid : Prop := distSwapsUptoRow.holds Try.pinned (OpenSpec.upto distSwapsSpec)

/-- 'quillkeep.DistNear', WHERE WHAT IT READS IS OF BULK AT MOST 1048576: true; the input reads as it did. -/
def distNearUptoRow : OpenClaim := { program := "ytppaicpjbcjgmaa", sum := "f25a792b539491458548ccea29e678864daa65dc7cb55ca35711b8ede323a692", func := "quillward/quillkeep.DistNear", spec := "distNear", unfollowed := true, recurses := true, apart := false, narrowed := true }
def DistNearUptoSaid : Prop := distNearUptoRow.holds Try.pinned (OpenSpec.upto distNearSpec)

/-- 'quillkeep.DistTurned', WHERE WHAT IT READS IS OF BULK AT MOST 1048576: true; the input reads as it did. -/
def distTurnedUptoRow : OpenClaim := { program := "ytppaicpjbcjgmaa", sum := "f25a792b539491458548ccea29e678864daa65dc7cb55ca35711b8ede323a692", func := "quillward/quillkeep.DistTurned", spec := "distTurned", apart := false, narrowed := true }
def DistTurnedUptoSaid : Prop := distTurnedUptoRow.holds Try.pinned (OpenSpec.upto distTurnedSpec)

end Rows
end Go.Proofs.Ytppaicpjbcjgmaa
