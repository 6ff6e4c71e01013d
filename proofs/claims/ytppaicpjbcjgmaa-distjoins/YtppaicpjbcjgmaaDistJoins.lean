
/-
quillkeep.DistJoins: whatever four words: it answers true.
-/
import Derived.Test.YtppaicpjbcjgmaaDists
import Derived.Test.YtppaicpjbcjgmaaSames
namespace Go.Proofs.Ytppaicpjbcjgmaa
open Go.RowKit

set_option maxHeartbeats 2000000 in
theorem distJoins_walk (a0 b0 c0 d0 : ByteArray) (_ : a0.size ≤ maxLen) (_ : b0.size ≤ maxLen) (_ : c0.size ≤ maxLen) (_ : d0.size ≤ maxLen) (w : World) :
    Calls Try.prog 6 #[.string a0, .string b0, .string c0, .string d0] w fun e w' => e = .returned (.bool true) ∧ Below w.heap.size w w' := by
  go_enter Try.func6, Try.ntmps6
  go_wp2_with fail
  with_reducible refine (dists_ok _).mono ?_
  rintro e w1 ⟨rfl, hb1⟩
  have HB := hid hb1
  clear hb1
  go_wp2_with fail
  refine (cut_any a0 90 _ (by decide)).mono ?_
  rintro e w2 ⟨rfl, rfl⟩
  have ha := (cutS_size a0 90).1
  generalize cutS a0 90 = a at ha
  go_wp2_with fail
  refine (cut_any b0 90 _ (by decide)).mono ?_
  rintro e w2 ⟨rfl, rfl⟩
  have hb := (cutS_size b0 90).1
  generalize cutS b0 90 = b at hb
  go_wp2_with fail
  refine (cut_any c0 90 _ (by decide)).mono ?_
  rintro e w2 ⟨rfl, rfl⟩
  have hc := (cutS_size c0 90).1
  generalize cutS c0 90 = c at hc
  go_wp2_with fail
  refine (cut_any d0 90 _ (by decide)).mono ?_
  rintro e w2 ⟨rfl, rfl⟩
  have hd := (cutS_size d0 90).1
  generalize cutS d0 90 = d at hd
  have hac : (a ++ c).size ≤ 200 := by rw [size_app]; omega
  have hbd : (b ++ d).size ≤ 200 := by rw [size_app]; omega
  have hca : (c ++ a).size ≤ 200 := by rw [size_app]; omega
  have hcb : (c ++ b).size ≤ 200 := by rw [size_app]; omega
  have hbc : (b ++ c).size ≤ 200 := by rw [size_app]; omega
  have n1 : ¬ 9223372036854775807 < a.size + c.size := by omega
  have n2 : ¬ 9223372036854775807 < b.size + d.size := by omega
  have n3 : ¬ 9223372036854775807 < c.size + a.size := by omega
  have n4 : ¬ 9223372036854775807 < c.size + b.size := by omega
  have n5 : ¬ 9223372036854775807 < b.size + c.size := by omega
  obtain ⟨n, hn⟩ : ∃ n, n = Lev.lv (lst a) (lst b) := ⟨_, rfl⟩
  obtain ⟨m, hm⟩ : ∃ m, m = Lev.lv (lst c) (lst d) := ⟨_, rfl⟩
  obtain ⟨k, hk⟩ : ∃ k, k = Lev.lv (lst (a ++ c)) (lst (b ++ d)) := ⟨_, rfl⟩
  have h1 : k ≤ n + m := by rw [hn, hm, hk, lst_cat, lst_cat]; exact Lev.lv_join _ _ _ _
  have hnb : n ≤ 90 ∧ m ≤ 90 := by
    have e1 := Lev.lv_max (lst a) (lst b)
    have e2 := Lev.lv_max (lst c) (lst d)
    rw [lst_len, lst_len] at e1 e2
    omega
  have HN := hid hn
  have HM := hid hm
  have HK := hid hk
  have HX : Hid (Lev.lv (lst (c ++ a)) (lst (c ++ b)) = n) := by rw [hn, lst_cat, lst_cat]; exact Lev.lv_ahead _ _ _
  have HY : Hid (Lev.lv (lst (a ++ c)) (lst (b ++ c)) = n) := by rw [hn, lst_cat, lst_cat]; exact Lev.lv_behind _ _ _
  clear hn hm hk
  go_wp2_with fail
  with_reducible refine (Of_ok a b _ (by omega) (by omega)).mono ?_
  rintro e w2 ⟨he, hb2⟩
  rw [← HN.out] at he
  subst he
  have HB := hid (bl_then HB.out hb2)
  clear hb2
  go_wp2_with fail
  with_reducible refine (Of_ok c d _ (by omega) (by omega)).mono ?_
  rintro e w3 ⟨he, hb2⟩
  rw [← HM.out] at he
  subst he
  have HB := hid (bl_then HB.out hb2)
  clear hb2
  go_wp2_with fail
  with_reducible refine (Of_ok (a ++ c) (b ++ d) _ hac hbd).mono ?_
  rintro e w4 ⟨he, hb2⟩
  rw [← HK.out] at he
  subst he
  have HB := hid (bl_then HB.out hb2)
  clear hb2
  go_wp2_with fail
  with_reducible refine (Of_ok (c ++ a) (c ++ b) _ hca hcb).mono ?_
  rintro e w5 ⟨he, hb2⟩
  rw [HX.out] at he
  subst he
  have HB := hid (bl_then HB.out hb2)
  clear hb2
  go_wp2_with fail
  with_reducible refine (Of_ok (a ++ c) (b ++ c) _ hac hbc).mono ?_
  rintro e w6 ⟨he, hb2⟩
  rw [HY.out] at he
  subst he
  have HB := hid (bl_then HB.out hb2)
  clear hb2
  go_wp2_with fail
  with_reducible refine (good_ok _ 5 5 _ (by omega) (zeros5 _ _)).mono ?_
  rintro e w8 ⟨rfl, rfl⟩
  have g1 : (k : Int) ≤ (n : Int) + (m : Int) := by omega
  have g5 : IntKind.i64.wrap ((n : Int) + (m : Int)) = (n : Int) + (m : Int) := IntWalk.i64_in _ (by omega)
  have g6 : ((n : Int) == (n : Int)) = true := by simp
  have HB := hid (bl_then HB.out (bl_new w6 (.cells #[.int .i64 0, .int .i64 0, .int .i64 0, .int .i64 0, .int .i64 0] 23)))
  go_wp2
  go_ret
  exact ⟨rfl, HB.out⟩
end Go.Proofs.Ytppaicpjbcjgmaa
