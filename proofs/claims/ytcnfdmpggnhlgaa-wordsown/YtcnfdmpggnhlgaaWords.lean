/-
The contract of quillkeep.words: it returns true.
-/
import Derived.Test.YtcnfdmpggnhlgaaKeep
import Derived.Test.YtcnfdmpggnhlgaaWordPub
namespace Go.Proofs.Ytcnfdmpggnhlgaa
open Go.RowKit

def abaaba : ByteArray := ⟨#[97, 98, 97, 97, 98, 97]⟩
theorem abaaba_periods : perL abaaba 6 = [3, 5, 6] := by decide +kernel
theorem abaaba_borders : ∀ k, k < 6 → (Wm.lb (byt abaaba) (k + 1) : Int) = ([0, 0, 1, 1, 2, 3] : List Int).getD k 0 := by decide +kernel

set_option maxHeartbeats 400000 in
theorem words_any (w : World) : Calls Try.prog 30 #[] w fun e w' => e = .returned (.bool true) ∧ Below w.heap.size w w' := by
  go_enter Try.func30, Try.ntmps30
  go_wp2_with fail
  refine (Periods_ok abaaba _ (by decide)).mono ?_
  rw [show abaaba.size = 6 from rfl, abaaba_periods]
  rintro e w1 ⟨A1, c1, rfl, hr1, hb1⟩
  have R1 := hid hr1
  clear hr1
  go_wp2_with fail
  refine (Borders_ok abaaba _ (by decide)).mono ?_
  rintro e w2 ⟨A2, c2, rfl, hr2, hb2⟩
  have R2 := hid hr2
  clear hr2
  rw [show abaaba.size = 6 from rfl] at R2 ⊢
  go_wp2_with fail
  with_reducible refine (good_ok _ 2 2 _ (by omega) (two_zeros _ _)).mono ?_
  rintro e w3 ⟨rfl, rfl⟩
  have R1' := hid ((R1.out.keep hb2).alloc (.cells #[.int .i64 0, .int .i64 0] 23))
  have R2' := hid (R2.out.alloc (.cells #[.int .i64 0, .int .i64 0] 23))
  have hb3 := bl_then (bl_then hb1 hb2) (bl_new w2 (.cells #[.int .i64 0, .int .i64 0] 23))
  clear R1 R2 hb1 hb2
  generalize hw3 : w2.alloc (.cells #[.int .i64 0, .int .i64 0] 23) = w3 at *
  clear hw3
  have L3 : IRow (w3.alloc (.cells #[.int .i64 3, .int .i64 5, .int .i64 6] 3)) (some ⟨w3.heap.size, 0, none⟩) 3 (fun k => ([3, 5, 6] : List Int).getD k 0) := IRow.lit w3 [3, 5, 6] 3 3 _ rfl rfl
  have R3 : IRow (w3.alloc (.cells #[.int .i64 3, .int .i64 5, .int .i64 6] 3)) A1 3 (fun k => ([3, 5, 6] : List Int).getD k 0) := R1'.out.alloc _
  have hL3 := hid L3
  have hR3 := hid R3
  clear L3 R3 R1'
  go_wp2_with fail
  with_reducible refine (equal_any hR3.out hL3.out (by decide) (by decide)).mono ?_
  rw [eqB_true.2 ⟨rfl, fun _ _ => rfl⟩]
  rintro e w4 ⟨rfl, hd4⟩
  have hb4 := (bl_new w3 (.cells #[.int .i64 3, .int .i64 5, .int .i64 6] 3)).trans (hd4.below _)
  have R4 := hid (R2'.out.keep hb4)
  have hb5 := bl_then hb3 hb4
  clear hd4 hL3 hR3 R2' hb3 hb4
  have L6 : IRow (w4.alloc (.cells #[.int .i64 0, .int .i64 0, .int .i64 1, .int .i64 1, .int .i64 2, .int .i64 3] 3)) (some ⟨w4.heap.size, 0, none⟩) 6 (fun k => ([0, 0, 1, 1, 2, 3] : List Int).getD k 0) := IRow.lit w4 [0, 0, 1, 1, 2, 3] 3 6 _ rfl rfl
  have R6 := hid (R4.out.alloc (.cells #[.int .i64 0, .int .i64 0, .int .i64 1, .int .i64 1, .int .i64 2, .int .i64 3] 3))
  have HL := hid L6
  clear L6 R4
  go_wp2_with fail
  with_reducible refine (equal_any R6.out HL.out (by decide) (by decide)).mono ?_
  rw [eqB_true.2 ⟨rfl, abaaba_borders⟩]
  rintro e w6 ⟨rfl, hd6⟩
  have hfin := hid (bl_then hb5 ((bl_new w4 (.cells #[.int .i64 0, .int .i64 0, .int .i64 1, .int .i64 1, .int .i64 2, .int .i64 3] 3)).trans (hd6.below _)))
  clear hd6 hb5 R6 HL
  go_wp2
  go_ret
  exact ⟨rfl, hfin.out⟩
end Go.Proofs.Ytcnfdmpggnhlgaa
