/-
The walk of quilllaw.MirrorSays: it returns true for every string.
-/
import Derived.Test.YtgeikpfbgdgciaaRefMir
import Derived.Test.YtgeikpfbgdgciaaLong
import Derived.Test.YtgeikpfbgdgciaaAlike
namespace Go.Proofs.Ytgeikpfbgdgciaa
open Go.RowKit

theorem mirrorSays_large (s : ByteArray) (w : World) (hs : 200 < s.size) :
    Calls Try.prog 3 #[.string s] w fun e w' => e = .returned (.bool true) ∧ Below w.heap.size w w' := by
  go_enter Try.func3, Try.ntmps3
  go_wp2_with fail
  with_reducible refine (Arms_large s _ hs).mono ?_
  rintro e w1 ⟨rfl, rfl⟩
  go_wp2_with fail
  with_reducible refine (Longest_large s _ hs).mono ?_
  rintro e w1 ⟨rfl, rfl⟩
  go_wp2_with fail
  with_reducible refine (Unlike_large s _ hs).mono ?_
  rintro e w1 ⟨rfl, rfl⟩
  go_wp2_with fail
  with_reducible refine (long_large s w.heap.size _ (new_cell _ _ _) hs).mono ?_
  rintro e w1 ⟨rfl, rfl⟩
  go_wp2
  go_ret
  exact ⟨rfl, bl_new _ _⟩
set_option maxHeartbeats 1000000 in
theorem mirrorSays_ok (s : ByteArray) (w : World) (hs : s.size ≤ 200) (hm : ∃ m, w.cell? ⟨0, 0, none⟩ = some (.int .i64 m)) (hw : 0 < w.heap.size) :
    Calls Try.prog 3 #[.string s] w fun e w' => e = .returned (.bool true) ∧ Below w.heap.size w w' := by
  obtain ⟨m, hm⟩ := hm
  have HM := hid hm
  have HW := hid hw
  clear hm hw
  have hsz : 2 * s.size + 1 ≤ maxLen := by unfold maxLen; omega
  go_enter Try.func3, Try.ntmps3
  go_wp2_with fail
  with_reducible refine (Arms_ok s _ hs).mono ?_
  rintro e w1 ⟨A, c, rfl, hr1, hb1⟩
  have R1 := hid hr1
  clear hr1
  go_wp2_with fail
  with_reducible refine (Longest_ok s _ hs).mono ?_
  rintro e w2 ⟨⟨a, b, rfl, hlg⟩, hb2⟩
  have HG := hid hlg
  clear hlg
  go_wp2_with fail
  with_reducible refine (Unlike_ok s _ hs).mono ?_
  rintro e w3 ⟨rfl, hb3⟩
  have hb4 := bl_then hb3 (bl_new w3 (.cells #[.string s] 9))
  have R4 := hid ((R1.out.keep hb2).keep hb4)
  have HB4 := hid (bl_then (bl_then hb1 hb2) hb4)
  have hcell := new_cell w3 (.string s) 9
  clear hb1 hb2 hb3 hb4 R1
  go_wp2_with fail
  with_reducible refine (long_ok s w3.heap.size _ hcell hs).mono ?_
  rintro e w4 ⟨rfl, rfl⟩
  generalize w3.alloc (.cells #[.string s] 9) = w4 at *
  clear hcell
  have hm4 : w4.cell? ⟨0, 0, none⟩ = some (.int .i64 m) := (HB4.out.cell (p := ⟨0, 0, none⟩) HW.out).trans HM.out
  have hw4 : 0 < w4.heap.size := Nat.lt_of_lt_of_le HW.out HB4.out.size
  go_wp2_with fail
  with_reducible refine (MirrorsOf_ok s _ hs ⟨m, hm4⟩ hw4).mono ?_
  rintro e w5 ⟨⟨t, rfl, hbest⟩, hb5⟩
  obtain rfl := hbest.done HG.out
  have R5 := hid (R4.out.keep hb5)
  have HB5 := hid (bl_then HB4.out hb5)
  clear R4 HB4 hb5 hm4 hw4 hbest HG
  obtain ⟨n, hn⟩ : ∃ n, n = (Mm.pl (lst s)).length := ⟨_, rfl⟩
  rw [← hn]
  clear hn
  generalize s.extract a b = t
  go_wp2_with fail
  with_reducible refine (ArmsOf_ok s _ hs).mono ?_
  rintro e w6 ⟨rfl, hr6, hb6⟩
  have R6 := hid (R5.out.keep hb6)
  have Q6 := hid hr6
  have HB6 := hid (bl_then HB5.out hb6)
  clear R5 HB5 hr6 hb6
  go_wp2_with fail
  with_reducible refine (alike_any R6.out Q6.out hsz hsz).mono ?_
  rw [eqB_true.2 ⟨rfl, fun _ _ => rfl⟩]
  rintro e w7 ⟨rfl, hd7⟩
  have HB7 := hid (HB6.out.trans (hd7.below _))
  clear R6 Q6 HB6 hd7
  have htt : (t.toList == t.toList) = true := by simp
  have hnn : ((n : Int) == (n : Int)) = true := by simp
  go_wp2
  go_ret
  exact ⟨rfl, HB7.out⟩
theorem mirrorSays_walk (s : ByteArray) (_ : s.size ≤ maxLen) (w : World) (hm : ∃ m, w.cell? ⟨0, 0, none⟩ = some (.int .i64 m)) (hw : 0 < w.heap.size) :
    Calls Try.prog 3 #[.string s] w fun e w' => e = .returned (.bool true) ∧ Below w.heap.size w w' := by
  by_cases hs : s.size ≤ 200
  · exact mirrorSays_ok s w hs hm hw
  · exact mirrorSays_large s w (by omega)
end Go.Proofs.Ytgeikpfbgdgciaa
