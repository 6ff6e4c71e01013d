
/-
quillkeep.DistTurned: whatever two words and a number: it answers true.
-/
import Derived.Test.YtppaicpjbcjgmaaDists
import Derived.Test.YtppaicpjbcjgmaaSames
namespace Go.Proofs.Ytppaicpjbcjgmaa
open Go.RowKit

/-- The turn of s from the place k. -/
def trD (s : ByteArray) (k : Nat) : ByteArray := s.extract k s.size ++ s.extract 0 k
theorem trD_size {s : ByteArray} {k : Nat} (h : k ≤ s.size) : (trD s k).size = s.size := by unfold trD; rw [size_app, size_ext, size_ext]; omega
theorem trD_lst (s : ByteArray) (k : Nat) : lst (trD s k) = (lst s).drop k ++ (lst s).take k := by
  unfold trD
  rw [lst_cat, lst_drop, lst_mid, List.drop_zero, Nat.sub_zero]
theorem dv_turned {a b : ByteArray} {r : Nat} (ha : r ≤ a.size) (hb : r ≤ b.size) : dv (trD a r) (trD b r) ≤ dv a b + 2 * r := by
  unfold dv
  rw [trD_size ha, trD_size hb]
  by_cases h : a.size ≤ 200 ∧ b.size ≤ 200
  · rw [if_pos h, if_pos h, trD_lst, trD_lst]
    have := Lev.lv_turned (p := (lst a).take r) (u := (lst a).drop r) (q := (lst b).take r) (v := (lst b).drop r) (by rw [List.length_take, List.length_take, lst_len, lst_len]; omega)
    rw [List.take_append_drop, List.take_append_drop, List.length_take, lst_len, Nat.min_eq_left ha] at this
    exact this
  · rw [if_neg h, if_neg h]; omega
theorem de_turned {a b : ByteArray} {r : Nat} (ha : r ≤ a.size) (hb : r ≤ b.size) : de (trD a r) (trD b r) = de a b := by
  unfold de
  rw [trD_size ha, trD_size hb]
theorem dv_back (a b : ByteArray) : dv (backS a) (backS b) = dv a b := by
  unfold dv
  rw [backS_size, backS_size, lst_rev, lst_rev, Lev.lv_rev]
theorem de_back (a b : ByteArray) : de (backS a) (backS b) = de a b := by
  unfold de
  rw [backS_size, backS_size]
set_option maxHeartbeats 1000000 in
theorem distTurned_walk (a b : ByteArray) (k : Int) (sa : a.size ≤ 140737488351232) (sb : b.size ≤ 140737488351232) (w : World) :
    Calls Try.prog 9 #[.string a, .string b, .int .i64 k] w fun e w' => e = .returned (.bool true) ∧ Below w.heap.size w w' := by
  obtain ⟨m, hm⟩ : ∃ m, m = if b.size < a.size then b.size else a.size := ⟨_, rfl⟩
  have hmin : (if b.size < a.size then (b.size : Int) else (a.size : Int)) = (m : Int) := by
    rw [hm]
    split <;> rfl
  have hma : m ≤ a.size ∧ m ≤ b.size := by rw [hm]; split <;> omega
  have hmin2 : min (a.size : Int) (b.size : Int) = (m : Int) := by
    rw [hm]
    split <;> omega
  clear hm
  have hr0 := Int.emod_nonneg k (show ((m + 1 : Nat) : Int) ≠ 0 by omega)
  have hr1 := Int.emod_lt_of_pos k (show (0 : Int) < ((m + 1 : Nat) : Int) by omega)
  obtain ⟨r, hr⟩ : ∃ r : Nat, r = (k % ((m + 1 : Nat) : Int)).toNat := ⟨_, rfl⟩
  have hra : r ≤ a.size := by omega
  have hrb : r ≤ b.size := by omega
  have HR := hid hr
  obtain ⟨n, hn⟩ : ∃ n, n = dv a b := ⟨_, rfl⟩
  obtain ⟨x, hx⟩ : ∃ x, x = dv (trD a r) (trD b r) := ⟨_, rfl⟩
  obtain ⟨d, hd⟩ : ∃ d, d = de a b := ⟨_, rfl⟩
  have hxn : x ≤ n + 2 * r := by rw [hx, hn]; exact dv_turned hra hrb
  have hn5 : n ≤ 200 := by rw [hn]; exact dv_le a b
  have HN := hid hn
  have HX := hid hx
  have HD := hid hd
  have HDT := hid (de_turned hra hrb)
  have hra' : (r : Int) ≤ (a.size : Int) := by omega
  have hrb' : (r : Int) ≤ (b.size : Int) := by omega
  have hr2 : (0 : Int) ≤ (r : Int) := by omega
  have hadd1 := fun W : World => run_string_add_sum (P := Try.prog) W (a.extract r a.size) (a.extract 0 r) (by rw [size_ext, size_ext]; omega)
  have hadd2 := fun W : World => run_string_add_sum (P := Try.prog) W (b.extract r b.size) (b.extract 0 r) (by rw [size_ext, size_ext]; omega)
  rw [show a.extract r a.size ++ a.extract 0 r = trD a r from rfl] at hadd1
  rw [show b.extract r b.size ++ b.extract 0 r = trD b r from rfl] at hadd2
  generalize trD a r = TA at *
  generalize trD b r = TB at *
  have g1 : IntKind.i64.wrap (2 * (r : Int)) = 2 * (r : Int) := IntWalk.i64_in _ (by omega)
  have g2 : IntKind.i64.wrap ((n : Int) + 2 * (r : Int)) = (n : Int) + 2 * (r : Int) := IntWalk.i64_in _ (by omega)
  have g3 : (x : Int) ≤ (n : Int) + 2 * (r : Int) := by omega
  clear hr hr0 hr1 hn hx hd hxn
  go_enter Try.func9, Try.ntmps9
  go_wp2_with fail
  with_reducible refine (dists_ok _).mono ?_
  rintro e w1 ⟨rfl, hb1⟩
  have HB := hid hb1
  clear hb1
  go_wp2_with fail
  with_reducible refine (Of_any a b _).mono ?_
  rintro e w2 ⟨he, hb2⟩
  rw [← HN.out, ← HD.out] at he
  subst he
  have HB := hid (bl_then HB.out hb2)
  clear hb2
  go_wp2_with fail
  with_reducible refine (back_any a _ (by unfold maxLen; omega)).mono ?_
  rintro e w3 ⟨rfl, hb2⟩
  have HB := hid (bl_then HB.out hb2)
  clear hb2
  go_wp2_with fail
  with_reducible refine (back_any b _ (by unfold maxLen; omega)).mono ?_
  rintro e w4 ⟨rfl, hb2⟩
  have HB := hid (bl_then HB.out hb2)
  clear hb2
  go_wp2_with fail
  with_reducible refine (Of_any (backS a) (backS b) _).mono ?_
  rintro e w5 ⟨he, hb2⟩
  rw [dv_back, de_back, ← HN.out, ← HD.out] at he
  subst he
  have HB := hid (bl_then HB.out hb2)
  clear hb2
  go_wp2_with fail
  rw [show (m : Int) + 1 = ((m + 1 : Nat) : Int) by omega]
  with_reducible refine (within_any k (m + 1) _ (by omega) (by omega)).mono ?_
  rw [← HR.out]
  rintro e w6 ⟨rfl, rfl⟩
  go_wp2_with fail
  go_region_held3 (fun _ => True) (trivial) (first | (go_at_call 10; (with_reducible refine (Of_any TA TB _).mono ?_); rintro e w6 ⟨he, hb2⟩; rw [← HX.out, HDT.out, ← HD.out] at he; subst he))
  have HB := hid (bl_then HB.out.drew hb2)
  clear hb2 hadd1 hadd2
  go_wp2
  go_ret
  exact ⟨rfl, HB.out⟩
end Go.Proofs.Ytppaicpjbcjgmaa
