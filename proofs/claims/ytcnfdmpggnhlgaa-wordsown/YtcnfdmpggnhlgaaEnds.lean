/-
The contract of quillkeep.ends: it returns true.
-/
import Derived.Test.YtcnfdmpggnhlgaaKeep
import Derived.Test.YtcnfdmpggnhlgaaOrder
namespace Go.Proofs.Ytcnfdmpggnhlgaa
open Go.RowKit

def abaS : ByteArray := ⟨#[97, 98, 97]⟩
theorem aba_sa : Sm.saL (lst abaS) = [2, 0, 1] := Sm.SA.unique (Sm.saL_sa _) ⟨by decide +kernel, by decide +kernel⟩
theorem aba_order : ∀ k, k < 3 → sg abaS k = ([2, 0, 1] : List Int).getD k 0 := by
  unfold sg Sm.sa
  rw [aba_sa]
  decide +kernel
theorem aba_common : ∀ k, k < 3 → cg abaS k = ([0, 1, 0] : List Int).getD k 0 := by
  unfold cg Sm.C Sm.X Sm.sa
  rw [aba_sa]
  decide +kernel

set_option maxHeartbeats 400000 in
theorem ends_any (w : World) : Calls Try.prog 18 #[] w fun e w' => e = .returned (.bool true) ∧ Below w.heap.size w w' := by
  go_enter Try.func18, Try.ntmps18
  go_wp2_with fail
  refine (Order_ok abaS _ (by decide)).mono ?_
  rw [show abaS.size = 3 from rfl]
  rintro e w1 ⟨B1, rfl, hn1, hr1, hb1⟩
  have R1 := hid ((irow_of hr1).congr aba_order)
  clear hr1
  go_wp2_with fail
  refine (Common_ok abaS _ (by decide)).mono ?_
  rw [show abaS.size = 3 from rfl]
  rintro e w2 ⟨B2, rfl, hn2, hr2, hb2⟩
  have R2 := hid ((irow_of hr2).congr aba_common)
  clear hr2
  go_wp2_with fail
  with_reducible refine (good_ok _ 2 2 _ (by omega) (two_zeros _ _)).mono ?_
  rintro e w3 ⟨rfl, rfl⟩
  have R1' := hid ((R1.out.keep hb2).alloc (.cells #[.int .i64 0, .int .i64 0] 23))
  have R2' := hid (R2.out.alloc (.cells #[.int .i64 0, .int .i64 0] 23))
  have hb3 := bl_then (bl_then hb1 hb2) (bl_new w2 (.cells #[.int .i64 0, .int .i64 0] 23))
  clear R1 R2 hb1 hb2
  generalize hw3 : w2.alloc (.cells #[.int .i64 0, .int .i64 0] 23) = w3 at *
  clear hw3
  have L3 : IRow (w3.alloc (.cells #[.int .i64 2, .int .i64 0, .int .i64 1] 3)) (some ⟨w3.heap.size, 0, none⟩) 3 (fun k => ([2, 0, 1] : List Int).getD k 0) := IRow.lit w3 [2, 0, 1] 3 3 _ rfl rfl
  have hL3 := hid L3
  have hR3 := hid (R1'.out.alloc (.cells #[.int .i64 2, .int .i64 0, .int .i64 1] 3))
  clear L3 R1'
  go_wp2_with fail
  with_reducible refine (equal_any hR3.out hL3.out (by decide) (by decide)).mono ?_
  rw [eqB_true.2 ⟨rfl, fun _ _ => rfl⟩]
  rintro e w4 ⟨rfl, hd4⟩
  have hb4 := (bl_new w3 (.cells #[.int .i64 2, .int .i64 0, .int .i64 1] 3)).trans (hd4.below _)
  have R4 := hid (R2'.out.keep hb4)
  have hb5 := bl_then hb3 hb4
  clear hd4 hL3 hR3 R2' hb3 hb4
  have L6 : IRow (w4.alloc (.cells #[.int .i64 0, .int .i64 1, .int .i64 0] 3)) (some ⟨w4.heap.size, 0, none⟩) 3 (fun k => ([0, 1, 0] : List Int).getD k 0) := IRow.lit w4 [0, 1, 0] 3 3 _ rfl rfl
  have R6 := hid (R4.out.alloc (.cells #[.int .i64 0, .int .i64 1, .int .i64 0] 3))
  have HL := hid L6
  clear L6 R4
  go_wp2_with fail
  with_reducible refine (equal_any R6.out HL.out (by decide) (by decide)).mono ?_
  rw [eqB_true.2 ⟨rfl, fun _ _ => rfl⟩]
  rintro e w6 ⟨rfl, hd6⟩
  have hfin := hid (bl_then hb5 ((bl_new w4 (.cells #[.int .i64 0, .int .i64 1, .int .i64 0] 3)).trans (hd6.below _)))
  clear hd6 hb5 R6 HL
  go_wp2
  go_ret
  exact ⟨rfl, hfin.out⟩
end Go.Proofs.Ytcnfdmpggnhlgaa
