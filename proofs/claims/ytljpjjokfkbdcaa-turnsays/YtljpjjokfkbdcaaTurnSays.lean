/-
quilllaw.TurnSays: whatever s, t, at, p: it answers true.
-/
import Derived.Test.YtljpjjokfkbdcaaRefBack
import Derived.Test.YtljpjjokfkbdcaaRefCount
import Derived.Test.YtljpjjokfkbdcaaLong
namespace Go.Proofs.Ytljpjjokfkbdcaa
open Go.RowKit

theorem BackOf_none (t : ByteArray) (a : Nat) (w : World) (h0 : t.size = 0) (ha : a = 0) : Calls Try.prog 13 #[.string t, .int .i64 (a : Int)] w (BackRet t a w) := by
  subst ha
  obtain rfl : t = ByteArray.empty := empty_of h0
  go_enter Try.func13, Try.ntmps13
  go_wp2
  go_ret2
  exact ⟨⟨mkB [], rfl, .inl ⟨isput_nil, rfl⟩⟩, Below.refl _ _⟩
theorem BackOf_any (t : ByteArray) (a : Nat) (w : World) (hs : t.size ≤ 200) (ha : a < max t.size 1) : Calls Try.prog 13 #[.string t, .int .i64 (a : Int)] w (BackRet t a w) := by
  rcases Nat.eq_zero_or_pos t.size with h0 | h0
  · exact BackOf_none t a w h0 (by omega)
  · exact BackOf_some t a w hs h0 (by omega)
theorem BackOf_yes (t : ByteArray) (a : Nat) (w : World) (hs : t.size ≤ 200) (ha : a < max t.size 1) (hy : Tm.IsPut (Tm.gt (lst t) a) (lst t) a) :
    Calls Try.prog 13 #[.string t, .int .i64 (a : Int)] w fun e w' => e = .returned (.tuple #[.string (gtS t a), .bool true]) ∧ Below w.heap.size w w' := by
  refine (BackOf_any t a w hs ha).mono ?_
  rintro e w1 ⟨⟨v, hv, hr⟩, hb⟩
  have e1 : v = gtS t a := by
    refine lst_inj ?_
    rw [hv, mkB_lst, gtS_lst]
    rcases Nat.eq_zero_or_pos t.size with h0 | h0
    · have h1 : (lst t).length = 0 := by rw [lst_len]; exact h0
      have h2 : (Tm.gt (lst t) a) = [] := List.eq_nil_of_length_eq_zero (by rw [Tm.gt_len, h1])
      rw [h2, h0]
      unfold Tm.rwL
      rw [h1]
      rfl
    · have := hy.rows (by rw [Tm.gt_len, lst_len]; exact h0)
      rw [lst_len] at this
      exact this
  subst e1
  rcases hr with ⟨_, rfl⟩ | ⟨hn, rfl⟩
  · exact ⟨rfl, hb⟩
  · rw [gtS_lst] at hn
    exact absurd hy hn
theorem BackOf_no (t : ByteArray) (a : Nat) (w : World) (hs : t.size ≤ 200) (ha : a < max t.size 1) (hy : ¬ Tm.IsPut (Tm.gt (lst t) a) (lst t) a) :
    Calls Try.prog 13 #[.string t, .int .i64 (a : Int)] w fun e w' => (∃ v : ByteArray, e = .returned (.tuple #[.string v, .bool false])) ∧ Below w.heap.size w w' := by
  refine (BackOf_any t a w hs ha).mono ?_
  rintro e w1 ⟨⟨v, hv, ⟨hp, rfl⟩ | ⟨_, rfl⟩⟩, hb⟩
  · exact absurd (by rw [hp.back]; exact hp) hy
  · exact ⟨⟨v, rfl⟩, hb⟩
theorem Get_yes (t : ByteArray) (a : Nat) (w : World) (hs : t.size ≤ 200) (ha : a < max t.size 1) (hy : Tm.IsPut (Tm.gt (lst t) a) (lst t) a) :
    Calls Try.prog 9 #[.string t, .int .i64 (a : Int)] w fun e w' => e = .returned (.tuple #[.string (gtS t a), .int .i64 0]) ∧ Below w.heap.size w w' := by
  refine (Get_fit t a w hs ha).mono ?_
  rintro e w1 ⟨⟨_, rfl⟩ | ⟨hn, rfl⟩, hb⟩
  · exact ⟨rfl, hb⟩
  · exact absurd hy hn
theorem Get_no (t : ByteArray) (a : Nat) (w : World) (hs : t.size ≤ 200) (ha : a < max t.size 1) (hy : ¬ Tm.IsPut (Tm.gt (lst t) a) (lst t) a) :
    Calls Try.prog 9 #[.string t, .int .i64 (a : Int)] w fun e w' => e = .returned (.tuple #[.string ByteArray.empty, .int .i64 3]) ∧ Below w.heap.size w w' := by
  refine (Get_fit t a w hs ha).mono ?_
  rintro e w1 ⟨⟨hp, rfl⟩ | ⟨_, rfl⟩, hb⟩
  · exact absurd hp hy
  · exact ⟨rfl, hb⟩
set_option maxHeartbeats 1000000 in
set_option maxRecDepth 100000 in
theorem says_ok_tl_any (s t : ByteArray) (at_ : Int) (p : ByteArray) (w : World) (hs : s.size ≤ 200) (ht : 200 < t.size) :
    Calls Try.prog 3 #[.string s, .string t, .int .i64 at_, .string p] w fun e w' => e = .returned (.bool true) ∧ Below w.heap.size w w' := by
  go_enter Try.func3, Try.ntmps3
  go_wp2_with fail
  with_reducible refine (Put_ok s _ hs).mono ?_
  rintro e w1 ⟨u, k, rfl, hput, hq⟩
  have hb1 := hid (hq)
  clear hq
  have HP := hid hput
  clear hput
  go_wp2_with fail
  with_reducible refine (Get_large t at_ _ ht).mono ?_
  rintro e w2 ⟨rfl, rfl⟩
  go_wp2_with fail
  with_reducible refine (Count_t_large t p _ ht).mono ?_
  rintro e w3 ⟨rfl, rfl⟩
  go_wp2_with fail
  with_reducible refine (long_ok s _ _ (new_cell _ _ _) hs).mono ?_
  rintro e wL1 ⟨rfl, rfl⟩
  have hb2 := hid (bl_then hb1.out (bl_new w1 (.cells #[.string s] 9)))
  clear hb1
  generalize w1.alloc (.cells #[.string s] 9) = wl1 at *
  go_wp2_with fail
  with_reducible refine (TurnsOf_ok s _ hs).mono ?_
  rintro e w5 ⟨v, i, rfl, hput2, hq⟩
  have hb3 := hid (bl_then hb2.out hq)
  clear hb2
  clear hq
  obtain ⟨e1, e2⟩ := hput2.unique HP.out
  obtain rfl : u = v := lst_inj e1.symm
  obtain rfl : k = i := e2.symm
  have huu : (u.toList == u.toList) = true := by simp
  have hkk : ((k : Int) != (k : Int)) = false := by simp
  clear hput2 e1 e2 HP
  go_wp2_with fail
  with_reducible refine (long_large t _ _ (new_cell _ _ _) ht).mono ?_
  rintro e wL2 ⟨rfl, rfl⟩
  have hb4 := hid (bl_then hb3.out (bl_new w5 (.cells #[.string t] 9)))
  clear hb3
  generalize w5.alloc (.cells #[.string t] 9) = wl2 at *
  go_wp2
  go_ret
  exact ⟨ret_bool (by simp), hb4.out⟩
set_option maxHeartbeats 1000000 in
set_option maxRecDepth 100000 in
theorem says_ok_neg_ok (s t : ByteArray) (at_ : Int) (p : ByteArray) (w : World) (hs : s.size ≤ 200) (ht : t.size ≤ 200) (hp : p.size ≤ 200) (ha : at_ < 0) :
    Calls Try.prog 3 #[.string s, .string t, .int .i64 at_, .string p] w fun e w' => e = .returned (.bool true) ∧ Below w.heap.size w w' := by
  obtain ⟨m, hm⟩ : ∃ m, m = max t.size 1 := ⟨_, rfl⟩
  have em : max (1 : Int) (t.size : Int) = (m : Int) := by omega
  have em2 : (if (1 : Int) < (t.size : Int) then (t.size : Int) else 1) = (m : Int) := by split <;> omega
  have HGA := hid (fun W => Get_arg t at_ W ht (.inl ha))
  have hd0 : decide (at_ < 0) = true := decide_eq_true ha
  clear hm ha
  go_enter Try.func3, Try.ntmps3
  go_wp2_with fail
  with_reducible refine (Put_ok s _ hs).mono ?_
  rintro e w1 ⟨u, k, rfl, hput, hq⟩
  have hb1 := hid (hq)
  clear hq
  have HP := hid hput
  clear hput
  go_wp2_with fail
  with_reducible refine (HGA.out _).mono ?_
  rintro e w2 ⟨rfl, rfl⟩
  go_wp2_with fail
  with_reducible refine (Count_ok t p _ ht hp).mono ?_
  rintro e w3 ⟨rfl, hq⟩
  have hb2 := hid (bl_then hb1.out hq)
  clear hb1
  clear hq
  have HCO := hid (fun W => CountOf_ok t p W ht hp)
  generalize Tm.csn (lst t) (lst p) = C at *
  have hCC : ((C : Int) == (C : Int)) = true := by simp
  go_wp2_with fail
  with_reducible refine (long_ok s _ _ (new_cell _ _ _) hs).mono ?_
  rintro e wL1 ⟨rfl, rfl⟩
  have hb3 := hid (bl_then hb2.out (bl_new w3 (.cells #[.string s] 9)))
  clear hb2
  generalize w3.alloc (.cells #[.string s] 9) = wl1 at *
  go_wp2_with fail
  with_reducible refine (TurnsOf_ok s _ hs).mono ?_
  rintro e w5 ⟨v, i, rfl, hput2, hq⟩
  have hb4 := hid (bl_then hb3.out hq)
  clear hb3
  clear hq
  obtain ⟨e1, e2⟩ := hput2.unique HP.out
  obtain rfl : u = v := lst_inj e1.symm
  obtain rfl : k = i := e2.symm
  have huu : (u.toList == u.toList) = true := by simp
  have hkk : ((k : Int) != (k : Int)) = false := by simp
  clear hput2 e1 e2 HP
  go_wp2_with fail
  with_reducible refine (long_ok t _ _ (new_cell _ _ _) ht).mono ?_
  rintro e wL2 ⟨rfl, rfl⟩
  have hb5 := hid (bl_then hb4.out (bl_new w5 (.cells #[.string t] 9)))
  clear hb4
  generalize w5.alloc (.cells #[.string t] 9) = wl2 at *
  go_wp2_with fail
  with_reducible refine (long_ok p _ _ (new_cell _ _ _) hp).mono ?_
  rintro e wL3 ⟨rfl, rfl⟩
  have hb6 := hid (bl_then hb5.out (bl_new wl2 (.cells #[.string p] 9)))
  clear hb5
  generalize wl2.alloc (.cells #[.string p] 9) = wl3 at *
  go_wp2_with fail
  with_reducible refine (HCO.out _).mono ?_
  rintro e w7 ⟨rfl, hq⟩
  have hb7 := hid (bl_then hb6.out hq)
  clear hb6
  clear hq
  go_wp2
  go_ret
  exact ⟨ret_bool (by simp), hb7.out⟩
set_option maxHeartbeats 1000000 in
set_option maxRecDepth 100000 in
theorem says_ok_neg_large (s t : ByteArray) (at_ : Int) (p : ByteArray) (w : World) (hs : s.size ≤ 200) (ht : t.size ≤ 200) (hp : 200 < p.size) (ha : at_ < 0) :
    Calls Try.prog 3 #[.string s, .string t, .int .i64 at_, .string p] w fun e w' => e = .returned (.bool true) ∧ Below w.heap.size w w' := by
  obtain ⟨m, hm⟩ : ∃ m, m = max t.size 1 := ⟨_, rfl⟩
  have em : max (1 : Int) (t.size : Int) = (m : Int) := by omega
  have em2 : (if (1 : Int) < (t.size : Int) then (t.size : Int) else 1) = (m : Int) := by split <;> omega
  have HGA := hid (fun W => Get_arg t at_ W ht (.inl ha))
  have hd0 : decide (at_ < 0) = true := decide_eq_true ha
  clear hm ha
  go_enter Try.func3, Try.ntmps3
  go_wp2_with fail
  with_reducible refine (Put_ok s _ hs).mono ?_
  rintro e w1 ⟨u, k, rfl, hput, hq⟩
  have hb1 := hid (hq)
  clear hq
  have HP := hid hput
  clear hput
  go_wp2_with fail
  with_reducible refine (HGA.out _).mono ?_
  rintro e w2 ⟨rfl, rfl⟩
  go_wp2_with fail
  with_reducible refine (Count_p_large t p _ ht hp).mono ?_
  rintro e w3 ⟨rfl, rfl⟩
  go_wp2_with fail
  with_reducible refine (long_ok s _ _ (new_cell _ _ _) hs).mono ?_
  rintro e wL1 ⟨rfl, rfl⟩
  have hb2 := hid (bl_then hb1.out (bl_new w1 (.cells #[.string s] 9)))
  clear hb1
  generalize w1.alloc (.cells #[.string s] 9) = wl1 at *
  go_wp2_with fail
  with_reducible refine (TurnsOf_ok s _ hs).mono ?_
  rintro e w5 ⟨v, i, rfl, hput2, hq⟩
  have hb3 := hid (bl_then hb2.out hq)
  clear hb2
  clear hq
  obtain ⟨e1, e2⟩ := hput2.unique HP.out
  obtain rfl : u = v := lst_inj e1.symm
  obtain rfl : k = i := e2.symm
  have huu : (u.toList == u.toList) = true := by simp
  have hkk : ((k : Int) != (k : Int)) = false := by simp
  clear hput2 e1 e2 HP
  go_wp2_with fail
  with_reducible refine (long_ok t _ _ (new_cell _ _ _) ht).mono ?_
  rintro e wL2 ⟨rfl, rfl⟩
  have hb4 := hid (bl_then hb3.out (bl_new w5 (.cells #[.string t] 9)))
  clear hb3
  generalize w5.alloc (.cells #[.string t] 9) = wl2 at *
  go_wp2_with fail
  with_reducible refine (long_large p _ _ (new_cell _ _ _) hp).mono ?_
  rintro e wL3 ⟨rfl, rfl⟩
  have hb5 := hid (bl_then hb4.out (bl_new wl2 (.cells #[.string p] 9)))
  clear hb4
  generalize wl2.alloc (.cells #[.string p] 9) = wl3 at *
  go_wp2
  go_ret
  exact ⟨ret_bool (by simp), hb5.out⟩
set_option maxHeartbeats 1000000 in
set_option maxRecDepth 100000 in
theorem says_ok_big_ok (s t : ByteArray) (at_ : Int) (p : ByteArray) (w : World) (hs : s.size ≤ 200) (ht : t.size ≤ 200) (hp : p.size ≤ 200) (ha0 : 0 ≤ at_) (ha : ((max t.size 1 : Nat) : Int) ≤ at_) :
    Calls Try.prog 3 #[.string s, .string t, .int .i64 at_, .string p] w fun e w' => e = .returned (.bool true) ∧ Below w.heap.size w w' := by
  obtain ⟨m, hm⟩ : ∃ m, m = max t.size 1 := ⟨_, rfl⟩
  have em : max (1 : Int) (t.size : Int) = (m : Int) := by omega
  have em2 : (if (1 : Int) < (t.size : Int) then (t.size : Int) else 1) = (m : Int) := by split <;> omega
  have HGA := hid (fun W => Get_arg t at_ W ht (.inr ha))
  have hd0 : decide (at_ < 0) = false := decide_eq_false (by omega)
  have hd1 : decide ((m : Int) ≤ at_) = true := decide_eq_true (by omega)
  clear hm ha
  go_enter Try.func3, Try.ntmps3
  go_wp2_with fail
  with_reducible refine (Put_ok s _ hs).mono ?_
  rintro e w1 ⟨u, k, rfl, hput, hq⟩
  have hb1 := hid (hq)
  clear hq
  have HP := hid hput
  clear hput
  go_wp2_with fail
  with_reducible refine (HGA.out _).mono ?_
  rintro e w2 ⟨rfl, rfl⟩
  go_wp2_with fail
  with_reducible refine (Count_ok t p _ ht hp).mono ?_
  rintro e w3 ⟨rfl, hq⟩
  have hb2 := hid (bl_then hb1.out hq)
  clear hb1
  clear hq
  have HCO := hid (fun W => CountOf_ok t p W ht hp)
  generalize Tm.csn (lst t) (lst p) = C at *
  have hCC : ((C : Int) == (C : Int)) = true := by simp
  go_wp2_with fail
  with_reducible refine (long_ok s _ _ (new_cell _ _ _) hs).mono ?_
  rintro e wL1 ⟨rfl, rfl⟩
  have hb3 := hid (bl_then hb2.out (bl_new w3 (.cells #[.string s] 9)))
  clear hb2
  generalize w3.alloc (.cells #[.string s] 9) = wl1 at *
  go_wp2_with fail
  with_reducible refine (TurnsOf_ok s _ hs).mono ?_
  rintro e w5 ⟨v, i, rfl, hput2, hq⟩
  have hb4 := hid (bl_then hb3.out hq)
  clear hb3
  clear hq
  obtain ⟨e1, e2⟩ := hput2.unique HP.out
  obtain rfl : u = v := lst_inj e1.symm
  obtain rfl : k = i := e2.symm
  have huu : (u.toList == u.toList) = true := by simp
  have hkk : ((k : Int) != (k : Int)) = false := by simp
  clear hput2 e1 e2 HP
  go_wp2_with fail
  with_reducible refine (long_ok t _ _ (new_cell _ _ _) ht).mono ?_
  rintro e wL2 ⟨rfl, rfl⟩
  have hb5 := hid (bl_then hb4.out (bl_new w5 (.cells #[.string t] 9)))
  clear hb4
  generalize w5.alloc (.cells #[.string t] 9) = wl2 at *
  go_wp2_with fail
  with_reducible refine (long_ok p _ _ (new_cell _ _ _) hp).mono ?_
  rintro e wL3 ⟨rfl, rfl⟩
  have hb6 := hid (bl_then hb5.out (bl_new wl2 (.cells #[.string p] 9)))
  clear hb5
  generalize wl2.alloc (.cells #[.string p] 9) = wl3 at *
  go_wp2_with fail
  with_reducible refine (HCO.out _).mono ?_
  rintro e w7 ⟨rfl, hq⟩
  have hb7 := hid (bl_then hb6.out hq)
  clear hb6
  clear hq
  go_wp2
  go_ret
  exact ⟨ret_bool (by simp), hb7.out⟩
set_option maxHeartbeats 1000000 in
set_option maxRecDepth 100000 in
theorem says_ok_big_large (s t : ByteArray) (at_ : Int) (p : ByteArray) (w : World) (hs : s.size ≤ 200) (ht : t.size ≤ 200) (hp : 200 < p.size) (ha0 : 0 ≤ at_) (ha : ((max t.size 1 : Nat) : Int) ≤ at_) :
    Calls Try.prog 3 #[.string s, .string t, .int .i64 at_, .string p] w fun e w' => e = .returned (.bool true) ∧ Below w.heap.size w w' := by
  obtain ⟨m, hm⟩ : ∃ m, m = max t.size 1 := ⟨_, rfl⟩
  have em : max (1 : Int) (t.size : Int) = (m : Int) := by omega
  have em2 : (if (1 : Int) < (t.size : Int) then (t.size : Int) else 1) = (m : Int) := by split <;> omega
  have HGA := hid (fun W => Get_arg t at_ W ht (.inr ha))
  have hd0 : decide (at_ < 0) = false := decide_eq_false (by omega)
  have hd1 : decide ((m : Int) ≤ at_) = true := decide_eq_true (by omega)
  clear hm ha
  go_enter Try.func3, Try.ntmps3
  go_wp2_with fail
  with_reducible refine (Put_ok s _ hs).mono ?_
  rintro e w1 ⟨u, k, rfl, hput, hq⟩
  have hb1 := hid (hq)
  clear hq
  have HP := hid hput
  clear hput
  go_wp2_with fail
  with_reducible refine (HGA.out _).mono ?_
  rintro e w2 ⟨rfl, rfl⟩
  go_wp2_with fail
  with_reducible refine (Count_p_large t p _ ht hp).mono ?_
  rintro e w3 ⟨rfl, rfl⟩
  go_wp2_with fail
  with_reducible refine (long_ok s _ _ (new_cell _ _ _) hs).mono ?_
  rintro e wL1 ⟨rfl, rfl⟩
  have hb2 := hid (bl_then hb1.out (bl_new w1 (.cells #[.string s] 9)))
  clear hb1
  generalize w1.alloc (.cells #[.string s] 9) = wl1 at *
  go_wp2_with fail
  with_reducible refine (TurnsOf_ok s _ hs).mono ?_
  rintro e w5 ⟨v, i, rfl, hput2, hq⟩
  have hb3 := hid (bl_then hb2.out hq)
  clear hb2
  clear hq
  obtain ⟨e1, e2⟩ := hput2.unique HP.out
  obtain rfl : u = v := lst_inj e1.symm
  obtain rfl : k = i := e2.symm
  have huu : (u.toList == u.toList) = true := by simp
  have hkk : ((k : Int) != (k : Int)) = false := by simp
  clear hput2 e1 e2 HP
  go_wp2_with fail
  with_reducible refine (long_ok t _ _ (new_cell _ _ _) ht).mono ?_
  rintro e wL2 ⟨rfl, rfl⟩
  have hb4 := hid (bl_then hb3.out (bl_new w5 (.cells #[.string t] 9)))
  clear hb3
  generalize w5.alloc (.cells #[.string t] 9) = wl2 at *
  go_wp2_with fail
  with_reducible refine (long_large p _ _ (new_cell _ _ _) hp).mono ?_
  rintro e wL3 ⟨rfl, rfl⟩
  have hb5 := hid (bl_then hb4.out (bl_new wl2 (.cells #[.string p] 9)))
  clear hb4
  generalize wl2.alloc (.cells #[.string p] 9) = wl3 at *
  go_wp2
  go_ret
  exact ⟨ret_bool (by simp), hb5.out⟩
set_option maxHeartbeats 1000000 in
set_option maxRecDepth 100000 in
theorem says_ok_yes_ok (s t : ByteArray) (a : Nat) (p : ByteArray) (w : World) (hs : s.size ≤ 200) (ht : t.size ≤ 200) (hp : p.size ≤ 200) (ha : a < max t.size 1) (hy : Tm.IsPut (Tm.gt (lst t) a) (lst t) a) :
    Calls Try.prog 3 #[.string s, .string t, .int .i64 (a : Int), .string p] w fun e w' => e = .returned (.bool true) ∧ Below w.heap.size w w' := by
  obtain ⟨m, hm⟩ : ∃ m, m = max t.size 1 := ⟨_, rfl⟩
  have em : max (1 : Int) (t.size : Int) = (m : Int) := by omega
  have em2 : (if (1 : Int) < (t.size : Int) then (t.size : Int) else 1) = (m : Int) := by split <;> omega
  have HGA := hid (fun W => Get_yes t a W ht ha hy)
  have HBA := hid (fun W => BackOf_yes t a W ht ha hy)
  have hd0 : decide ((a : Int) < 0) = false := decide_eq_false (by omega)
  have hd1 : decide ((m : Int) ≤ (a : Int)) = false := decide_eq_false (by omega)
  have hd2 : ¬ m ≤ a := by omega
  generalize gtS t a = G at *
  have hGG : (G.toList == G.toList) = true := by simp
  clear hy
  clear hm ha
  go_enter Try.func3, Try.ntmps3
  go_wp2_with fail
  with_reducible refine (Put_ok s _ hs).mono ?_
  rintro e w1 ⟨u, k, rfl, hput, hq⟩
  have hb1 := hid (hq)
  clear hq
  have HP := hid hput
  clear hput
  go_wp2_with fail
  with_reducible refine (HGA.out _).mono ?_
  rintro e w2 ⟨rfl, hq⟩
  have hb2 := hid (bl_then hb1.out hq)
  clear hb1
  clear hq
  go_wp2_with fail
  with_reducible refine (Count_ok t p _ ht hp).mono ?_
  rintro e w3 ⟨rfl, hq⟩
  have hb3 := hid (bl_then hb2.out hq)
  clear hb2
  clear hq
  have HCO := hid (fun W => CountOf_ok t p W ht hp)
  generalize Tm.csn (lst t) (lst p) = C at *
  have hCC : ((C : Int) == (C : Int)) = true := by simp
  go_wp2_with fail
  with_reducible refine (long_ok s _ _ (new_cell _ _ _) hs).mono ?_
  rintro e wL1 ⟨rfl, rfl⟩
  have hb4 := hid (bl_then hb3.out (bl_new w3 (.cells #[.string s] 9)))
  clear hb3
  generalize w3.alloc (.cells #[.string s] 9) = wl1 at *
  go_wp2_with fail
  with_reducible refine (TurnsOf_ok s _ hs).mono ?_
  rintro e w5 ⟨v, i, rfl, hput2, hq⟩
  have hb5 := hid (bl_then hb4.out hq)
  clear hb4
  clear hq
  obtain ⟨e1, e2⟩ := hput2.unique HP.out
  obtain rfl : u = v := lst_inj e1.symm
  obtain rfl : k = i := e2.symm
  have huu : (u.toList == u.toList) = true := by simp
  have hkk : ((k : Int) != (k : Int)) = false := by simp
  clear hput2 e1 e2 HP
  go_wp2_with fail
  with_reducible refine (long_ok t _ _ (new_cell _ _ _) ht).mono ?_
  rintro e wL2 ⟨rfl, rfl⟩
  have hb6 := hid (bl_then hb5.out (bl_new w5 (.cells #[.string t] 9)))
  clear hb5
  generalize w5.alloc (.cells #[.string t] 9) = wl2 at *
  go_wp2_with fail
  with_reducible refine (HBA.out _).mono ?_
  rintro e w6 ⟨rfl, hq⟩
  have hb7 := hid (bl_then hb6.out hq)
  clear hb6
  clear hq
  go_wp2_with fail
  with_reducible refine (long_ok p _ _ (new_cell _ _ _) hp).mono ?_
  rintro e wL3 ⟨rfl, rfl⟩
  have hb8 := hid (bl_then hb7.out (bl_new w6 (.cells #[.string p] 9)))
  clear hb7
  generalize w6.alloc (.cells #[.string p] 9) = wl3 at *
  go_wp2_with fail
  with_reducible refine (HCO.out _).mono ?_
  rintro e w7 ⟨rfl, hq⟩
  have hb9 := hid (bl_then hb8.out hq)
  clear hb8
  clear hq
  go_wp2
  go_ret
  exact ⟨ret_bool (by simp), hb9.out⟩
set_option maxHeartbeats 1000000 in
set_option maxRecDepth 100000 in
theorem says_ok_yes_large (s t : ByteArray) (a : Nat) (p : ByteArray) (w : World) (hs : s.size ≤ 200) (ht : t.size ≤ 200) (hp : 200 < p.size) (ha : a < max t.size 1) (hy : Tm.IsPut (Tm.gt (lst t) a) (lst t) a) :
    Calls Try.prog 3 #[.string s, .string t, .int .i64 (a : Int), .string p] w fun e w' => e = .returned (.bool true) ∧ Below w.heap.size w w' := by
  obtain ⟨m, hm⟩ : ∃ m, m = max t.size 1 := ⟨_, rfl⟩
  have em : max (1 : Int) (t.size : Int) = (m : Int) := by omega
  have em2 : (if (1 : Int) < (t.size : Int) then (t.size : Int) else 1) = (m : Int) := by split <;> omega
  have HGA := hid (fun W => Get_yes t a W ht ha hy)
  have HBA := hid (fun W => BackOf_yes t a W ht ha hy)
  have hd0 : decide ((a : Int) < 0) = false := decide_eq_false (by omega)
  have hd1 : decide ((m : Int) ≤ (a : Int)) = false := decide_eq_false (by omega)
  have hd2 : ¬ m ≤ a := by omega
  generalize gtS t a = G at *
  have hGG : (G.toList == G.toList) = true := by simp
  clear hy
  clear hm ha
  go_enter Try.func3, Try.ntmps3
  go_wp2_with fail
  with_reducible refine (Put_ok s _ hs).mono ?_
  rintro e w1 ⟨u, k, rfl, hput, hq⟩
  have hb1 := hid (hq)
  clear hq
  have HP := hid hput
  clear hput
  go_wp2_with fail
  with_reducible refine (HGA.out _).mono ?_
  rintro e w2 ⟨rfl, hq⟩
  have hb2 := hid (bl_then hb1.out hq)
  clear hb1
  clear hq
  go_wp2_with fail
  with_reducible refine (Count_p_large t p _ ht hp).mono ?_
  rintro e w3 ⟨rfl, rfl⟩
  go_wp2_with fail
  with_reducible refine (long_ok s _ _ (new_cell _ _ _) hs).mono ?_
  rintro e wL1 ⟨rfl, rfl⟩
  have hb3 := hid (bl_then hb2.out (bl_new w2 (.cells #[.string s] 9)))
  clear hb2
  generalize w2.alloc (.cells #[.string s] 9) = wl1 at *
  go_wp2_with fail
  with_reducible refine (TurnsOf_ok s _ hs).mono ?_
  rintro e w5 ⟨v, i, rfl, hput2, hq⟩
  have hb4 := hid (bl_then hb3.out hq)
  clear hb3
  clear hq
  obtain ⟨e1, e2⟩ := hput2.unique HP.out
  obtain rfl : u = v := lst_inj e1.symm
  obtain rfl : k = i := e2.symm
  have huu : (u.toList == u.toList) = true := by simp
  have hkk : ((k : Int) != (k : Int)) = false := by simp
  clear hput2 e1 e2 HP
  go_wp2_with fail
  with_reducible refine (long_ok t _ _ (new_cell _ _ _) ht).mono ?_
  rintro e wL2 ⟨rfl, rfl⟩
  have hb5 := hid (bl_then hb4.out (bl_new w5 (.cells #[.string t] 9)))
  clear hb4
  generalize w5.alloc (.cells #[.string t] 9) = wl2 at *
  go_wp2_with fail
  with_reducible refine (HBA.out _).mono ?_
  rintro e w6 ⟨rfl, hq⟩
  have hb6 := hid (bl_then hb5.out hq)
  clear hb5
  clear hq
  go_wp2_with fail
  with_reducible refine (long_large p _ _ (new_cell _ _ _) hp).mono ?_
  rintro e wL3 ⟨rfl, rfl⟩
  have hb7 := hid (bl_then hb6.out (bl_new w6 (.cells #[.string p] 9)))
  clear hb6
  generalize w6.alloc (.cells #[.string p] 9) = wl3 at *
  go_wp2
  go_ret
  exact ⟨ret_bool (by simp), hb7.out⟩
set_option maxHeartbeats 1000000 in
set_option maxRecDepth 100000 in
theorem says_ok_no_ok (s t : ByteArray) (a : Nat) (p : ByteArray) (w : World) (hs : s.size ≤ 200) (ht : t.size ≤ 200) (hp : p.size ≤ 200) (ha : a < max t.size 1) (hy : ¬ Tm.IsPut (Tm.gt (lst t) a) (lst t) a) :
    Calls Try.prog 3 #[.string s, .string t, .int .i64 (a : Int), .string p] w fun e w' => e = .returned (.bool true) ∧ Below w.heap.size w w' := by
  obtain ⟨m, hm⟩ : ∃ m, m = max t.size 1 := ⟨_, rfl⟩
  have em : max (1 : Int) (t.size : Int) = (m : Int) := by omega
  have em2 : (if (1 : Int) < (t.size : Int) then (t.size : Int) else 1) = (m : Int) := by split <;> omega
  have HGA := hid (fun W => Get_no t a W ht ha hy)
  have HBA := hid (fun W => BackOf_no t a W ht ha hy)
  have hd0 : decide ((a : Int) < 0) = false := decide_eq_false (by omega)
  have hd1 : decide ((m : Int) ≤ (a : Int)) = false := decide_eq_false (by omega)
  have hd2 : ¬ m ≤ a := by omega
  clear hy
  clear hm ha
  go_enter Try.func3, Try.ntmps3
  go_wp2_with fail
  with_reducible refine (Put_ok s _ hs).mono ?_
  rintro e w1 ⟨u, k, rfl, hput, hq⟩
  have hb1 := hid (hq)
  clear hq
  have HP := hid hput
  clear hput
  go_wp2_with fail
  with_reducible refine (HGA.out _).mono ?_
  rintro e w2 ⟨rfl, hq⟩
  have hb2 := hid (bl_then hb1.out hq)
  clear hb1
  clear hq
  go_wp2_with fail
  with_reducible refine (Count_ok t p _ ht hp).mono ?_
  rintro e w3 ⟨rfl, hq⟩
  have hb3 := hid (bl_then hb2.out hq)
  clear hb2
  clear hq
  have HCO := hid (fun W => CountOf_ok t p W ht hp)
  generalize Tm.csn (lst t) (lst p) = C at *
  have hCC : ((C : Int) == (C : Int)) = true := by simp
  go_wp2_with fail
  with_reducible refine (long_ok s _ _ (new_cell _ _ _) hs).mono ?_
  rintro e wL1 ⟨rfl, rfl⟩
  have hb4 := hid (bl_then hb3.out (bl_new w3 (.cells #[.string s] 9)))
  clear hb3
  generalize w3.alloc (.cells #[.string s] 9) = wl1 at *
  go_wp2_with fail
  with_reducible refine (TurnsOf_ok s _ hs).mono ?_
  rintro e w5 ⟨v, i, rfl, hput2, hq⟩
  have hb5 := hid (bl_then hb4.out hq)
  clear hb4
  clear hq
  obtain ⟨e1, e2⟩ := hput2.unique HP.out
  obtain rfl : u = v := lst_inj e1.symm
  obtain rfl : k = i := e2.symm
  have huu : (u.toList == u.toList) = true := by simp
  have hkk : ((k : Int) != (k : Int)) = false := by simp
  clear hput2 e1 e2 HP
  go_wp2_with fail
  with_reducible refine (long_ok t _ _ (new_cell _ _ _) ht).mono ?_
  rintro e wL2 ⟨rfl, rfl⟩
  have hb6 := hid (bl_then hb5.out (bl_new w5 (.cells #[.string t] 9)))
  clear hb5
  generalize w5.alloc (.cells #[.string t] 9) = wl2 at *
  go_wp2_with fail
  with_reducible refine (HBA.out _).mono ?_
  rintro e w6 ⟨⟨v2, rfl⟩, hq⟩
  have hb7 := hid (bl_then hb6.out hq)
  clear hb6
  clear hq
  go_wp2_with fail
  with_reducible refine (long_ok p _ _ (new_cell _ _ _) hp).mono ?_
  rintro e wL3 ⟨rfl, rfl⟩
  have hb8 := hid (bl_then hb7.out (bl_new w6 (.cells #[.string p] 9)))
  clear hb7
  generalize w6.alloc (.cells #[.string p] 9) = wl3 at *
  go_wp2_with fail
  with_reducible refine (HCO.out _).mono ?_
  rintro e w7 ⟨rfl, hq⟩
  have hb9 := hid (bl_then hb8.out hq)
  clear hb8
  clear hq
  go_wp2
  go_ret
  exact ⟨ret_bool (by simp), hb9.out⟩
set_option maxHeartbeats 1000000 in
set_option maxRecDepth 100000 in
theorem says_ok_no_large (s t : ByteArray) (a : Nat) (p : ByteArray) (w : World) (hs : s.size ≤ 200) (ht : t.size ≤ 200) (hp : 200 < p.size) (ha : a < max t.size 1) (hy : ¬ Tm.IsPut (Tm.gt (lst t) a) (lst t) a) :
    Calls Try.prog 3 #[.string s, .string t, .int .i64 (a : Int), .string p] w fun e w' => e = .returned (.bool true) ∧ Below w.heap.size w w' := by
  obtain ⟨m, hm⟩ : ∃ m, m = max t.size 1 := ⟨_, rfl⟩
  have em : max (1 : Int) (t.size : Int) = (m : Int) := by omega
  have em2 : (if (1 : Int) < (t.size : Int) then (t.size : Int) else 1) = (m : Int) := by split <;> omega
  have HGA := hid (fun W => Get_no t a W ht ha hy)
  have HBA := hid (fun W => BackOf_no t a W ht ha hy)
  have hd0 : decide ((a : Int) < 0) = false := decide_eq_false (by omega)
  have hd1 : decide ((m : Int) ≤ (a : Int)) = false := decide_eq_false (by omega)
  have hd2 : ¬ m ≤ a := by omega
  clear hy
  clear hm ha
  go_enter Try.func3, Try.ntmps3
  go_wp2_with fail
  with_reducible refine (Put_ok s _ hs).mono ?_
  rintro e w1 ⟨u, k, rfl, hput, hq⟩
  have hb1 := hid (hq)
  clear hq
  have HP := hid hput
  clear hput
  go_wp2_with fail
  with_reducible refine (HGA.out _).mono ?_
  rintro e w2 ⟨rfl, hq⟩
  have hb2 := hid (bl_then hb1.out hq)
  clear hb1
  clear hq
  go_wp2_with fail
  with_reducible refine (Count_p_large t p _ ht hp).mono ?_
  rintro e w3 ⟨rfl, rfl⟩
  go_wp2_with fail
  with_reducible refine (long_ok s _ _ (new_cell _ _ _) hs).mono ?_
  rintro e wL1 ⟨rfl, rfl⟩
  have hb3 := hid (bl_then hb2.out (bl_new w2 (.cells #[.string s] 9)))
  clear hb2
  generalize w2.alloc (.cells #[.string s] 9) = wl1 at *
  go_wp2_with fail
  with_reducible refine (TurnsOf_ok s _ hs).mono ?_
  rintro e w5 ⟨v, i, rfl, hput2, hq⟩
  have hb4 := hid (bl_then hb3.out hq)
  clear hb3
  clear hq
  obtain ⟨e1, e2⟩ := hput2.unique HP.out
  obtain rfl : u = v := lst_inj e1.symm
  obtain rfl : k = i := e2.symm
  have huu : (u.toList == u.toList) = true := by simp
  have hkk : ((k : Int) != (k : Int)) = false := by simp
  clear hput2 e1 e2 HP
  go_wp2_with fail
  with_reducible refine (long_ok t _ _ (new_cell _ _ _) ht).mono ?_
  rintro e wL2 ⟨rfl, rfl⟩
  have hb5 := hid (bl_then hb4.out (bl_new w5 (.cells #[.string t] 9)))
  clear hb4
  generalize w5.alloc (.cells #[.string t] 9) = wl2 at *
  go_wp2_with fail
  with_reducible refine (HBA.out _).mono ?_
  rintro e w6 ⟨⟨v2, rfl⟩, hq⟩
  have hb6 := hid (bl_then hb5.out hq)
  clear hb5
  clear hq
  go_wp2_with fail
  with_reducible refine (long_large p _ _ (new_cell _ _ _) hp).mono ?_
  rintro e wL3 ⟨rfl, rfl⟩
  have hb7 := hid (bl_then hb6.out (bl_new w6 (.cells #[.string p] 9)))
  clear hb6
  generalize w6.alloc (.cells #[.string p] 9) = wl3 at *
  go_wp2
  go_ret
  exact ⟨ret_bool (by simp), hb7.out⟩
set_option maxHeartbeats 1000000 in
set_option maxRecDepth 100000 in
theorem says_large_tl_any (s t : ByteArray) (at_ : Int) (p : ByteArray) (w : World) (hs : 200 < s.size) (ht : 200 < t.size) :
    Calls Try.prog 3 #[.string s, .string t, .int .i64 at_, .string p] w fun e w' => e = .returned (.bool true) ∧ Below w.heap.size w w' := by
  go_enter Try.func3, Try.ntmps3
  go_wp2_with fail
  with_reducible refine (Put_large s _ hs).mono ?_
  rintro e w1 ⟨rfl, rfl⟩
  go_wp2_with fail
  with_reducible refine (Get_large t at_ _ ht).mono ?_
  rintro e w2 ⟨rfl, rfl⟩
  go_wp2_with fail
  with_reducible refine (Count_t_large t p _ ht).mono ?_
  rintro e w3 ⟨rfl, rfl⟩
  go_wp2_with fail
  with_reducible refine (long_large s _ _ (new_cell _ _ _) hs).mono ?_
  rintro e wL1 ⟨rfl, rfl⟩
  have hb1 := hid ((bl_new w (.cells #[.string s] 9)))
  generalize w.alloc (.cells #[.string s] 9) = wl1 at *
  go_wp2_with fail
  with_reducible refine (long_large t _ _ (new_cell _ _ _) ht).mono ?_
  rintro e wL2 ⟨rfl, rfl⟩
  have hb2 := hid (bl_then hb1.out (bl_new wl1 (.cells #[.string t] 9)))
  clear hb1
  generalize wl1.alloc (.cells #[.string t] 9) = wl2 at *
  go_wp2
  go_ret
  exact ⟨ret_bool (by simp), hb2.out⟩
set_option maxHeartbeats 1000000 in
set_option maxRecDepth 100000 in
theorem says_large_neg_ok (s t : ByteArray) (at_ : Int) (p : ByteArray) (w : World) (hs : 200 < s.size) (ht : t.size ≤ 200) (hp : p.size ≤ 200) (ha : at_ < 0) :
    Calls Try.prog 3 #[.string s, .string t, .int .i64 at_, .string p] w fun e w' => e = .returned (.bool true) ∧ Below w.heap.size w w' := by
  obtain ⟨m, hm⟩ : ∃ m, m = max t.size 1 := ⟨_, rfl⟩
  have em : max (1 : Int) (t.size : Int) = (m : Int) := by omega
  have em2 : (if (1 : Int) < (t.size : Int) then (t.size : Int) else 1) = (m : Int) := by split <;> omega
  have HGA := hid (fun W => Get_arg t at_ W ht (.inl ha))
  have hd0 : decide (at_ < 0) = true := decide_eq_true ha
  clear hm ha
  go_enter Try.func3, Try.ntmps3
  go_wp2_with fail
  with_reducible refine (Put_large s _ hs).mono ?_
  rintro e w1 ⟨rfl, rfl⟩
  go_wp2_with fail
  with_reducible refine (HGA.out _).mono ?_
  rintro e w2 ⟨rfl, rfl⟩
  go_wp2_with fail
  with_reducible refine (Count_ok t p _ ht hp).mono ?_
  rintro e w3 ⟨rfl, hq⟩
  have hb1 := hid (hq)
  clear hq
  have HCO := hid (fun W => CountOf_ok t p W ht hp)
  generalize Tm.csn (lst t) (lst p) = C at *
  have hCC : ((C : Int) == (C : Int)) = true := by simp
  go_wp2_with fail
  with_reducible refine (long_large s _ _ (new_cell _ _ _) hs).mono ?_
  rintro e wL1 ⟨rfl, rfl⟩
  have hb2 := hid (bl_then hb1.out (bl_new w3 (.cells #[.string s] 9)))
  clear hb1
  generalize w3.alloc (.cells #[.string s] 9) = wl1 at *
  go_wp2_with fail
  with_reducible refine (long_ok t _ _ (new_cell _ _ _) ht).mono ?_
  rintro e wL2 ⟨rfl, rfl⟩
  have hb3 := hid (bl_then hb2.out (bl_new wl1 (.cells #[.string t] 9)))
  clear hb2
  generalize wl1.alloc (.cells #[.string t] 9) = wl2 at *
  go_wp2_with fail
  with_reducible refine (long_ok p _ _ (new_cell _ _ _) hp).mono ?_
  rintro e wL3 ⟨rfl, rfl⟩
  have hb4 := hid (bl_then hb3.out (bl_new wl2 (.cells #[.string p] 9)))
  clear hb3
  generalize wl2.alloc (.cells #[.string p] 9) = wl3 at *
  go_wp2_with fail
  with_reducible refine (HCO.out _).mono ?_
  rintro e w7 ⟨rfl, hq⟩
  have hb5 := hid (bl_then hb4.out hq)
  clear hb4
  clear hq
  go_wp2
  go_ret
  exact ⟨ret_bool (by simp), hb5.out⟩
set_option maxHeartbeats 1000000 in
set_option maxRecDepth 100000 in
theorem says_large_neg_large (s t : ByteArray) (at_ : Int) (p : ByteArray) (w : World) (hs : 200 < s.size) (ht : t.size ≤ 200) (hp : 200 < p.size) (ha : at_ < 0) :
    Calls Try.prog 3 #[.string s, .string t, .int .i64 at_, .string p] w fun e w' => e = .returned (.bool true) ∧ Below w.heap.size w w' := by
  obtain ⟨m, hm⟩ : ∃ m, m = max t.size 1 := ⟨_, rfl⟩
  have em : max (1 : Int) (t.size : Int) = (m : Int) := by omega
  have em2 : (if (1 : Int) < (t.size : Int) then (t.size : Int) else 1) = (m : Int) := by split <;> omega
  have HGA := hid (fun W => Get_arg t at_ W ht (.inl ha))
  have hd0 : decide (at_ < 0) = true := decide_eq_true ha
  clear hm ha
  go_enter Try.func3, Try.ntmps3
  go_wp2_with fail
  with_reducible refine (Put_large s _ hs).mono ?_
  rintro e w1 ⟨rfl, rfl⟩
  go_wp2_with fail
  with_reducible refine (HGA.out _).mono ?_
  rintro e w2 ⟨rfl, rfl⟩
  go_wp2_with fail
  with_reducible refine (Count_p_large t p _ ht hp).mono ?_
  rintro e w3 ⟨rfl, rfl⟩
  go_wp2_with fail
  with_reducible refine (long_large s _ _ (new_cell _ _ _) hs).mono ?_
  rintro e wL1 ⟨rfl, rfl⟩
  have hb1 := hid ((bl_new w (.cells #[.string s] 9)))
  generalize w.alloc (.cells #[.string s] 9) = wl1 at *
  go_wp2_with fail
  with_reducible refine (long_ok t _ _ (new_cell _ _ _) ht).mono ?_
  rintro e wL2 ⟨rfl, rfl⟩
  have hb2 := hid (bl_then hb1.out (bl_new wl1 (.cells #[.string t] 9)))
  clear hb1
  generalize wl1.alloc (.cells #[.string t] 9) = wl2 at *
  go_wp2_with fail
  with_reducible refine (long_large p _ _ (new_cell _ _ _) hp).mono ?_
  rintro e wL3 ⟨rfl, rfl⟩
  have hb3 := hid (bl_then hb2.out (bl_new wl2 (.cells #[.string p] 9)))
  clear hb2
  generalize wl2.alloc (.cells #[.string p] 9) = wl3 at *
  go_wp2
  go_ret
  exact ⟨ret_bool (by simp), hb3.out⟩
set_option maxHeartbeats 1000000 in
set_option maxRecDepth 100000 in
theorem says_large_big_ok (s t : ByteArray) (at_ : Int) (p : ByteArray) (w : World) (hs : 200 < s.size) (ht : t.size ≤ 200) (hp : p.size ≤ 200) (ha0 : 0 ≤ at_) (ha : ((max t.size 1 : Nat) : Int) ≤ at_) :
    Calls Try.prog 3 #[.string s, .string t, .int .i64 at_, .string p] w fun e w' => e = .returned (.bool true) ∧ Below w.heap.size w w' := by
  obtain ⟨m, hm⟩ : ∃ m, m = max t.size 1 := ⟨_, rfl⟩
  have em : max (1 : Int) (t.size : Int) = (m : Int) := by omega
  have em2 : (if (1 : Int) < (t.size : Int) then (t.size : Int) else 1) = (m : Int) := by split <;> omega
  have HGA := hid (fun W => Get_arg t at_ W ht (.inr ha))
  have hd0 : decide (at_ < 0) = false := decide_eq_false (by omega)
  have hd1 : decide ((m : Int) ≤ at_) = true := decide_eq_true (by omega)
  clear hm ha
  go_enter Try.func3, Try.ntmps3
  go_wp2_with fail
  with_reducible refine (Put_large s _ hs).mono ?_
  rintro e w1 ⟨rfl, rfl⟩
  go_wp2_with fail
  with_reducible refine (HGA.out _).mono ?_
  rintro e w2 ⟨rfl, rfl⟩
  go_wp2_with fail
  with_reducible refine (Count_ok t p _ ht hp).mono ?_
  rintro e w3 ⟨rfl, hq⟩
  have hb1 := hid (hq)
  clear hq
  have HCO := hid (fun W => CountOf_ok t p W ht hp)
  generalize Tm.csn (lst t) (lst p) = C at *
  have hCC : ((C : Int) == (C : Int)) = true := by simp
  go_wp2_with fail
  with_reducible refine (long_large s _ _ (new_cell _ _ _) hs).mono ?_
  rintro e wL1 ⟨rfl, rfl⟩
  have hb2 := hid (bl_then hb1.out (bl_new w3 (.cells #[.string s] 9)))
  clear hb1
  generalize w3.alloc (.cells #[.string s] 9) = wl1 at *
  go_wp2_with fail
  with_reducible refine (long_ok t _ _ (new_cell _ _ _) ht).mono ?_
  rintro e wL2 ⟨rfl, rfl⟩
  have hb3 := hid (bl_then hb2.out (bl_new wl1 (.cells #[.string t] 9)))
  clear hb2
  generalize wl1.alloc (.cells #[.string t] 9) = wl2 at *
  go_wp2_with fail
  with_reducible refine (long_ok p _ _ (new_cell _ _ _) hp).mono ?_
  rintro e wL3 ⟨rfl, rfl⟩
  have hb4 := hid (bl_then hb3.out (bl_new wl2 (.cells #[.string p] 9)))
  clear hb3
  generalize wl2.alloc (.cells #[.string p] 9) = wl3 at *
  go_wp2_with fail
  with_reducible refine (HCO.out _).mono ?_
  rintro e w7 ⟨rfl, hq⟩
  have hb5 := hid (bl_then hb4.out hq)
  clear hb4
  clear hq
  go_wp2
  go_ret
  exact ⟨ret_bool (by simp), hb5.out⟩
set_option maxHeartbeats 1000000 in
set_option maxRecDepth 100000 in
theorem says_large_big_large (s t : ByteArray) (at_ : Int) (p : ByteArray) (w : World) (hs : 200 < s.size) (ht : t.size ≤ 200) (hp : 200 < p.size) (ha0 : 0 ≤ at_) (ha : ((max t.size 1 : Nat) : Int) ≤ at_) :
    Calls Try.prog 3 #[.string s, .string t, .int .i64 at_, .string p] w fun e w' => e = .returned (.bool true) ∧ Below w.heap.size w w' := by
  obtain ⟨m, hm⟩ : ∃ m, m = max t.size 1 := ⟨_, rfl⟩
  have em : max (1 : Int) (t.size : Int) = (m : Int) := by omega
  have em2 : (if (1 : Int) < (t.size : Int) then (t.size : Int) else 1) = (m : Int) := by split <;> omega
  have HGA := hid (fun W => Get_arg t at_ W ht (.inr ha))
  have hd0 : decide (at_ < 0) = false := decide_eq_false (by omega)
  have hd1 : decide ((m : Int) ≤ at_) = true := decide_eq_true (by omega)
  clear hm ha
  go_enter Try.func3, Try.ntmps3
  go_wp2_with fail
  with_reducible refine (Put_large s _ hs).mono ?_
  rintro e w1 ⟨rfl, rfl⟩
  go_wp2_with fail
  with_reducible refine (HGA.out _).mono ?_
  rintro e w2 ⟨rfl, rfl⟩
  go_wp2_with fail
  with_reducible refine (Count_p_large t p _ ht hp).mono ?_
  rintro e w3 ⟨rfl, rfl⟩
  go_wp2_with fail
  with_reducible refine (long_large s _ _ (new_cell _ _ _) hs).mono ?_
  rintro e wL1 ⟨rfl, rfl⟩
  have hb1 := hid ((bl_new w (.cells #[.string s] 9)))
  generalize w.alloc (.cells #[.string s] 9) = wl1 at *
  go_wp2_with fail
  with_reducible refine (long_ok t _ _ (new_cell _ _ _) ht).mono ?_
  rintro e wL2 ⟨rfl, rfl⟩
  have hb2 := hid (bl_then hb1.out (bl_new wl1 (.cells #[.string t] 9)))
  clear hb1
  generalize wl1.alloc (.cells #[.string t] 9) = wl2 at *
  go_wp2_with fail
  with_reducible refine (long_large p _ _ (new_cell _ _ _) hp).mono ?_
  rintro e wL3 ⟨rfl, rfl⟩
  have hb3 := hid (bl_then hb2.out (bl_new wl2 (.cells #[.string p] 9)))
  clear hb2
  generalize wl2.alloc (.cells #[.string p] 9) = wl3 at *
  go_wp2
  go_ret
  exact ⟨ret_bool (by simp), hb3.out⟩
set_option maxHeartbeats 1000000 in
set_option maxRecDepth 100000 in
theorem says_large_yes_ok (s t : ByteArray) (a : Nat) (p : ByteArray) (w : World) (hs : 200 < s.size) (ht : t.size ≤ 200) (hp : p.size ≤ 200) (ha : a < max t.size 1) (hy : Tm.IsPut (Tm.gt (lst t) a) (lst t) a) :
    Calls Try.prog 3 #[.string s, .string t, .int .i64 (a : Int), .string p] w fun e w' => e = .returned (.bool true) ∧ Below w.heap.size w w' := by
  obtain ⟨m, hm⟩ : ∃ m, m = max t.size 1 := ⟨_, rfl⟩
  have em : max (1 : Int) (t.size : Int) = (m : Int) := by omega
  have em2 : (if (1 : Int) < (t.size : Int) then (t.size : Int) else 1) = (m : Int) := by split <;> omega
  have HGA := hid (fun W => Get_yes t a W ht ha hy)
  have HBA := hid (fun W => BackOf_yes t a W ht ha hy)
  have hd0 : decide ((a : Int) < 0) = false := decide_eq_false (by omega)
  have hd1 : decide ((m : Int) ≤ (a : Int)) = false := decide_eq_false (by omega)
  have hd2 : ¬ m ≤ a := by omega
  generalize gtS t a = G at *
  have hGG : (G.toList == G.toList) = true := by simp
  clear hy
  clear hm ha
  go_enter Try.func3, Try.ntmps3
  go_wp2_with fail
  with_reducible refine (Put_large s _ hs).mono ?_
  rintro e w1 ⟨rfl, rfl⟩
  go_wp2_with fail
  with_reducible refine (HGA.out _).mono ?_
  rintro e w2 ⟨rfl, hq⟩
  have hb1 := hid (hq)
  clear hq
  go_wp2_with fail
  with_reducible refine (Count_ok t p _ ht hp).mono ?_
  rintro e w3 ⟨rfl, hq⟩
  have hb2 := hid (bl_then hb1.out hq)
  clear hb1
  clear hq
  have HCO := hid (fun W => CountOf_ok t p W ht hp)
  generalize Tm.csn (lst t) (lst p) = C at *
  have hCC : ((C : Int) == (C : Int)) = true := by simp
  go_wp2_with fail
  with_reducible refine (long_large s _ _ (new_cell _ _ _) hs).mono ?_
  rintro e wL1 ⟨rfl, rfl⟩
  have hb3 := hid (bl_then hb2.out (bl_new w3 (.cells #[.string s] 9)))
  clear hb2
  generalize w3.alloc (.cells #[.string s] 9) = wl1 at *
  go_wp2_with fail
  with_reducible refine (long_ok t _ _ (new_cell _ _ _) ht).mono ?_
  rintro e wL2 ⟨rfl, rfl⟩
  have hb4 := hid (bl_then hb3.out (bl_new wl1 (.cells #[.string t] 9)))
  clear hb3
  generalize wl1.alloc (.cells #[.string t] 9) = wl2 at *
  go_wp2_with fail
  with_reducible refine (HBA.out _).mono ?_
  rintro e w6 ⟨rfl, hq⟩
  have hb5 := hid (bl_then hb4.out hq)
  clear hb4
  clear hq
  go_wp2_with fail
  with_reducible refine (long_ok p _ _ (new_cell _ _ _) hp).mono ?_
  rintro e wL3 ⟨rfl, rfl⟩
  have hb6 := hid (bl_then hb5.out (bl_new w6 (.cells #[.string p] 9)))
  clear hb5
  generalize w6.alloc (.cells #[.string p] 9) = wl3 at *
  go_wp2_with fail
  with_reducible refine (HCO.out _).mono ?_
  rintro e w7 ⟨rfl, hq⟩
  have hb7 := hid (bl_then hb6.out hq)
  clear hb6
  clear hq
  go_wp2
  go_ret
  exact ⟨ret_bool (by simp), hb7.out⟩
set_option maxHeartbeats 1000000 in
set_option maxRecDepth 100000 in
theorem says_large_yes_large (s t : ByteArray) (a : Nat) (p : ByteArray) (w : World) (hs : 200 < s.size) (ht : t.size ≤ 200) (hp : 200 < p.size) (ha : a < max t.size 1) (hy : Tm.IsPut (Tm.gt (lst t) a) (lst t) a) :
    Calls Try.prog 3 #[.string s, .string t, .int .i64 (a : Int), .string p] w fun e w' => e = .returned (.bool true) ∧ Below w.heap.size w w' := by
  obtain ⟨m, hm⟩ : ∃ m, m = max t.size 1 := ⟨_, rfl⟩
  have em : max (1 : Int) (t.size : Int) = (m : Int) := by omega
  have em2 : (if (1 : Int) < (t.size : Int) then (t.size : Int) else 1) = (m : Int) := by split <;> omega
  have HGA := hid (fun W => Get_yes t a W ht ha hy)
  have HBA := hid (fun W => BackOf_yes t a W ht ha hy)
  have hd0 : decide ((a : Int) < 0) = false := decide_eq_false (by omega)
  have hd1 : decide ((m : Int) ≤ (a : Int)) = false := decide_eq_false (by omega)
  have hd2 : ¬ m ≤ a := by omega
  generalize gtS t a = G at *
  have hGG : (G.toList == G.toList) = true := by simp
  clear hy
  clear hm ha
  go_enter Try.func3, Try.ntmps3
  go_wp2_with fail
  with_reducible refine (Put_large s _ hs).mono ?_
  rintro e w1 ⟨rfl, rfl⟩
  go_wp2_with fail
  with_reducible refine (HGA.out _).mono ?_
  rintro e w2 ⟨rfl, hq⟩
  have hb1 := hid (hq)
  clear hq
  go_wp2_with fail
  with_reducible refine (Count_p_large t p _ ht hp).mono ?_
  rintro e w3 ⟨rfl, rfl⟩
  go_wp2_with fail
  with_reducible refine (long_large s _ _ (new_cell _ _ _) hs).mono ?_
  rintro e wL1 ⟨rfl, rfl⟩
  have hb2 := hid (bl_then hb1.out (bl_new w2 (.cells #[.string s] 9)))
  clear hb1
  generalize w2.alloc (.cells #[.string s] 9) = wl1 at *
  go_wp2_with fail
  with_reducible refine (long_ok t _ _ (new_cell _ _ _) ht).mono ?_
  rintro e wL2 ⟨rfl, rfl⟩
  have hb3 := hid (bl_then hb2.out (bl_new wl1 (.cells #[.string t] 9)))
  clear hb2
  generalize wl1.alloc (.cells #[.string t] 9) = wl2 at *
  go_wp2_with fail
  with_reducible refine (HBA.out _).mono ?_
  rintro e w6 ⟨rfl, hq⟩
  have hb4 := hid (bl_then hb3.out hq)
  clear hb3
  clear hq
  go_wp2_with fail
  with_reducible refine (long_large p _ _ (new_cell _ _ _) hp).mono ?_
  rintro e wL3 ⟨rfl, rfl⟩
  have hb5 := hid (bl_then hb4.out (bl_new w6 (.cells #[.string p] 9)))
  clear hb4
  generalize w6.alloc (.cells #[.string p] 9) = wl3 at *
  go_wp2
  go_ret
  exact ⟨ret_bool (by simp), hb5.out⟩
set_option maxHeartbeats 1000000 in
set_option maxRecDepth 100000 in
theorem says_large_no_ok (s t : ByteArray) (a : Nat) (p : ByteArray) (w : World) (hs : 200 < s.size) (ht : t.size ≤ 200) (hp : p.size ≤ 200) (ha : a < max t.size 1) (hy : ¬ Tm.IsPut (Tm.gt (lst t) a) (lst t) a) :
    Calls Try.prog 3 #[.string s, .string t, .int .i64 (a : Int), .string p] w fun e w' => e = .returned (.bool true) ∧ Below w.heap.size w w' := by
  obtain ⟨m, hm⟩ : ∃ m, m = max t.size 1 := ⟨_, rfl⟩
  have em : max (1 : Int) (t.size : Int) = (m : Int) := by omega
  have em2 : (if (1 : Int) < (t.size : Int) then (t.size : Int) else 1) = (m : Int) := by split <;> omega
  have HGA := hid (fun W => Get_no t a W ht ha hy)
  have HBA := hid (fun W => BackOf_no t a W ht ha hy)
  have hd0 : decide ((a : Int) < 0) = false := decide_eq_false (by omega)
  have hd1 : decide ((m : Int) ≤ (a : Int)) = false := decide_eq_false (by omega)
  have hd2 : ¬ m ≤ a := by omega
  clear hy
  clear hm ha
  go_enter Try.func3, Try.ntmps3
  go_wp2_with fail
  with_reducible refine (Put_large s _ hs).mono ?_
  rintro e w1 ⟨rfl, rfl⟩
  go_wp2_with fail
  with_reducible refine (HGA.out _).mono ?_
  rintro e w2 ⟨rfl, hq⟩
  have hb1 := hid (hq)
  clear hq
  go_wp2_with fail
  with_reducible refine (Count_ok t p _ ht hp).mono ?_
  rintro e w3 ⟨rfl, hq⟩
  have hb2 := hid (bl_then hb1.out hq)
  clear hb1
  clear hq
  have HCO := hid (fun W => CountOf_ok t p W ht hp)
  generalize Tm.csn (lst t) (lst p) = C at *
  have hCC : ((C : Int) == (C : Int)) = true := by simp
  go_wp2_with fail
  with_reducible refine (long_large s _ _ (new_cell _ _ _) hs).mono ?_
  rintro e wL1 ⟨rfl, rfl⟩
  have hb3 := hid (bl_then hb2.out (bl_new w3 (.cells #[.string s] 9)))
  clear hb2
  generalize w3.alloc (.cells #[.string s] 9) = wl1 at *
  go_wp2_with fail
  with_reducible refine (long_ok t _ _ (new_cell _ _ _) ht).mono ?_
  rintro e wL2 ⟨rfl, rfl⟩
  have hb4 := hid (bl_then hb3.out (bl_new wl1 (.cells #[.string t] 9)))
  clear hb3
  generalize wl1.alloc (.cells #[.string t] 9) = wl2 at *
  go_wp2_with fail
  with_reducible refine (HBA.out _).mono ?_
  rintro e w6 ⟨⟨v2, rfl⟩, hq⟩
  have hb5 := hid (bl_then hb4.out hq)
  clear hb4
  clear hq
  go_wp2_with fail
  with_reducible refine (long_ok p _ _ (new_cell _ _ _) hp).mono ?_
  rintro e wL3 ⟨rfl, rfl⟩
  have hb6 := hid (bl_then hb5.out (bl_new w6 (.cells #[.string p] 9)))
  clear hb5
  generalize w6.alloc (.cells #[.string p] 9) = wl3 at *
  go_wp2_with fail
  with_reducible refine (HCO.out _).mono ?_
  rintro e w7 ⟨rfl, hq⟩
  have hb7 := hid (bl_then hb6.out hq)
  clear hb6
  clear hq
  go_wp2
  go_ret
  exact ⟨ret_bool (by simp), hb7.out⟩
set_option maxHeartbeats 1000000 in
set_option maxRecDepth 100000 in
theorem says_large_no_large (s t : ByteArray) (a : Nat) (p : ByteArray) (w : World) (hs : 200 < s.size) (ht : t.size ≤ 200) (hp : 200 < p.size) (ha : a < max t.size 1) (hy : ¬ Tm.IsPut (Tm.gt (lst t) a) (lst t) a) :
    Calls Try.prog 3 #[.string s, .string t, .int .i64 (a : Int), .string p] w fun e w' => e = .returned (.bool true) ∧ Below w.heap.size w w' := by
  obtain ⟨m, hm⟩ : ∃ m, m = max t.size 1 := ⟨_, rfl⟩
  have em : max (1 : Int) (t.size : Int) = (m : Int) := by omega
  have em2 : (if (1 : Int) < (t.size : Int) then (t.size : Int) else 1) = (m : Int) := by split <;> omega
  have HGA := hid (fun W => Get_no t a W ht ha hy)
  have HBA := hid (fun W => BackOf_no t a W ht ha hy)
  have hd0 : decide ((a : Int) < 0) = false := decide_eq_false (by omega)
  have hd1 : decide ((m : Int) ≤ (a : Int)) = false := decide_eq_false (by omega)
  have hd2 : ¬ m ≤ a := by omega
  clear hy
  clear hm ha
  go_enter Try.func3, Try.ntmps3
  go_wp2_with fail
  with_reducible refine (Put_large s _ hs).mono ?_
  rintro e w1 ⟨rfl, rfl⟩
  go_wp2_with fail
  with_reducible refine (HGA.out _).mono ?_
  rintro e w2 ⟨rfl, hq⟩
  have hb1 := hid (hq)
  clear hq
  go_wp2_with fail
  with_reducible refine (Count_p_large t p _ ht hp).mono ?_
  rintro e w3 ⟨rfl, rfl⟩
  go_wp2_with fail
  with_reducible refine (long_large s _ _ (new_cell _ _ _) hs).mono ?_
  rintro e wL1 ⟨rfl, rfl⟩
  have hb2 := hid (bl_then hb1.out (bl_new w2 (.cells #[.string s] 9)))
  clear hb1
  generalize w2.alloc (.cells #[.string s] 9) = wl1 at *
  go_wp2_with fail
  with_reducible refine (long_ok t _ _ (new_cell _ _ _) ht).mono ?_
  rintro e wL2 ⟨rfl, rfl⟩
  have hb3 := hid (bl_then hb2.out (bl_new wl1 (.cells #[.string t] 9)))
  clear hb2
  generalize wl1.alloc (.cells #[.string t] 9) = wl2 at *
  go_wp2_with fail
  with_reducible refine (HBA.out _).mono ?_
  rintro e w6 ⟨⟨v2, rfl⟩, hq⟩
  have hb4 := hid (bl_then hb3.out hq)
  clear hb3
  clear hq
  go_wp2_with fail
  with_reducible refine (long_large p _ _ (new_cell _ _ _) hp).mono ?_
  rintro e wL3 ⟨rfl, rfl⟩
  have hb5 := hid (bl_then hb4.out (bl_new w6 (.cells #[.string p] 9)))
  clear hb4
  generalize w6.alloc (.cells #[.string p] 9) = wl3 at *
  go_wp2
  go_ret
  exact ⟨ret_bool (by simp), hb5.out⟩
theorem turnSays_any (s t : ByteArray) (at_ : Int) (p : ByteArray) (_h1 : s.size ≤ maxLen) (_h2 : t.size ≤ maxLen) (_h3 : (Lit.int .i64 at_).wf = true) (_h4 : p.size ≤ maxLen) (w : World) :
    Calls Try.prog 3 #[.string s, .string t, .int .i64 at_, .string p] w fun e w' => e = .returned (.bool true) ∧ Below w.heap.size w w' := by
  by_cases hs : s.size ≤ 200
  · by_cases ht : t.size ≤ 200
    · by_cases hneg : at_ < 0
      · by_cases hp : p.size ≤ 200
        · exact says_ok_neg_ok s t at_ p w hs ht hp hneg
        · exact says_ok_neg_large s t at_ p w hs ht (by omega) hneg
      · by_cases hbig : ((max t.size 1 : Nat) : Int) ≤ at_
        · by_cases hp : p.size ≤ 200
          · exact says_ok_big_ok s t at_ p w hs ht hp (by omega) hbig
          · exact says_ok_big_large s t at_ p w hs ht (by omega) (by omega) hbig
        · obtain ⟨a, rfl⟩ : ∃ a : Nat, at_ = (a : Int) := ⟨at_.toNat, by omega⟩
          by_cases hy : Tm.IsPut (Tm.gt (lst t) a) (lst t) a
          · by_cases hp : p.size ≤ 200
            · exact says_ok_yes_ok s t a p w hs ht hp (by omega) hy
            · exact says_ok_yes_large s t a p w hs ht (by omega) (by omega) hy
          · by_cases hp : p.size ≤ 200
            · exact says_ok_no_ok s t a p w hs ht hp (by omega) hy
            · exact says_ok_no_large s t a p w hs ht (by omega) (by omega) hy
    · exact says_ok_tl_any s t at_ p w hs (by omega)
  · have hs : 200 < s.size := by omega
    by_cases ht : t.size ≤ 200
    · by_cases hneg : at_ < 0
      · by_cases hp : p.size ≤ 200
        · exact says_large_neg_ok s t at_ p w hs ht hp hneg
        · exact says_large_neg_large s t at_ p w hs ht (by omega) hneg
      · by_cases hbig : ((max t.size 1 : Nat) : Int) ≤ at_
        · by_cases hp : p.size ≤ 200
          · exact says_large_big_ok s t at_ p w hs ht hp (by omega) hbig
          · exact says_large_big_large s t at_ p w hs ht (by omega) (by omega) hbig
        · obtain ⟨a, rfl⟩ : ∃ a : Nat, at_ = (a : Int) := ⟨at_.toNat, by omega⟩
          by_cases hy : Tm.IsPut (Tm.gt (lst t) a) (lst t) a
          · by_cases hp : p.size ≤ 200
            · exact says_large_yes_ok s t a p w hs ht hp (by omega) hy
            · exact says_large_yes_large s t a p w hs ht (by omega) (by omega) hy
          · by_cases hp : p.size ≤ 200
            · exact says_large_no_ok s t a p w hs ht hp (by omega) hy
            · exact says_large_no_large s t a p w hs ht (by omega) (by omega) hy
    · exact says_large_tl_any s t at_ p w hs (by omega)
end Go.Proofs.Ytljpjjokfkbdcaa
