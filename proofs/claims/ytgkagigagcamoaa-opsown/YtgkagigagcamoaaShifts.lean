
/-
quillkeep.shifts: it answers true.
-/
import Derived.Test.YtgkagigagcamoaaShC
import Derived.Test.YtgkagigagcamoaaOpEqual
namespace Go.Proofs.Ytgkagigagcamoaa
open Go.RowKit

theorem opWf_small {x : Sh.Op} (h : -1000000 ≤ x.k ∧ x.k ≤ 1000000 ∧ -1000000 ≤ x.a ∧ x.a ≤ 1000000) : OpWf x := ⟨by omega, by omega, by omega, by omega⟩
theorem shifts_ok (w : World) : Calls Try.prog 20 #[] w fun e w' => e = .returned (.bool true) ∧ Below w.heap.size w w' := by
  have hc : Calls Try.prog 12 #[.int .i64 3, .agg #[.int .i64 1, .int .i64 1, .int .u8 120], .agg #[.int .i64 1, .int .i64 1, .int .u8 121], .bool false] w fun e w' =>
      e = .returned (.tuple #[.agg #[.int .i64 1, .int .i64 2, .int .u8 120], .int .i64 0]) ∧ Below w.heap.size w w' := by
    refine (Past_any 3 ⟨1, 1, 120⟩ ⟨1, 1, 121⟩ false w (by unfold N64; omega) (opWf_small (by decide)) (opWf_small (by decide))).mono ?_
    rintro e w' ⟨z, e0, rfl, hp, hb⟩
    have h1 : Sh.opErr 3 ⟨1, 1, 120⟩ = 0 := by decide
    have h2 : Sh.opErr 3 ⟨1, 1, 121⟩ = 0 := by decide
    obtain ⟨rfl, rfl⟩ := hp.ok h1 h2
    exact ⟨rfl, hb⟩
  have hq := op_eql
  have hgd := op_guard
  have hb1 : opB 1 2 120 1 2 120 = true := opB_same _ _ _
  go_enter Try.func20, Try.ntmps20
  go_wp2_with fail
  with_reducible refine hc.mono ?_
  rintro e w1 ⟨rfl, hb⟩
  have HB := hid (bl_then hb (bl_new w1 (.cells #[.int .i64 1, .int .i64 2, .int .u8 120] 23)))
  have hc0 : (w1.alloc (.cells #[.int .i64 1, .int .i64 2, .int .u8 120] 23)).cell? ⟨w1.heap.size, 0, none⟩ = some (.int .i64 1) := by rw [cell_of_row _ _ _ _ _ _ (heap_alloc_new w1 _)]; rfl
  have hc1 : (w1.alloc (.cells #[.int .i64 1, .int .i64 2, .int .u8 120] 23)).cell? ⟨w1.heap.size, 1, none⟩ = some (.int .i64 2) := by rw [cell_of_row _ _ _ _ _ _ (heap_alloc_new w1 _)]; rfl
  have hc2 : (w1.alloc (.cells #[.int .i64 1, .int .i64 2, .int .u8 120] 23)).cell? ⟨w1.heap.size, 2, none⟩ = some (.int .u8 120) := by rw [cell_of_row _ _ _ _ _ _ (heap_alloc_new w1 _)]; rfl
  clear hb hc
  go_wp2
  go_ret
  exact ⟨rfl, HB.out⟩
end Go.Proofs.Ytgkagigagcamoaa
