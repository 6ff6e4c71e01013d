/-
The walk of quillkeep.WordTurns: it returns true for every string (of a size that a process can hold) and number.
-/
import Derived.Test.YtihidlcepdpjoaaWordRoot
import Derived.Test.YtihidlcepdpjoaaWords
import Derived.Test.YtihidlcepdpjoaaBack
namespace Go.Proofs.Ytihidlcepdpjoaa
open Go.RowKit

/-- s turned by r. -/
def turnS (s : ByteArray) (r : Nat) : ByteArray := s.extract r s.size ++ s.extract 0 r
theorem turnS_size {s : ByteArray} {r : Nat} (hr : r ≤ s.size) : (turnS s r).size = s.size := by unfold turnS; rw [size_app, size_ext, size_ext]; omega
theorem turnS_byt {s : ByteArray} {r i : Nat} (hr : r ≤ s.size) (hi : i < s.size) : byt (turnS s r) i = byt s ((i + r) % s.size) := by
  unfold turnS
  rw [byt_app, size_ext, Nat.min_self]
  by_cases h : i < s.size - r
  · rw [Wm.cat_lt h, byt_ext h, Nat.mod_eq_of_lt (by omega), Nat.add_comm]
  · rw [Wm.cat_ge (by omega), byt_ext (by omega), Nat.zero_add, Nat.mod_eq_sub_mod (by omega), Nat.mod_eq_of_lt (by omega)]
    congr 1; omega
theorem rootS_empty {s : ByteArray} (h : s.size = 0) : rootS s = ByteArray.empty ∧ rootN s = 0 := by unfold rootS rootN; rw [if_pos h, if_pos h]; exact ⟨rfl, rfl⟩
theorem turn_root {s : ByteArray} {r : Nat} (hr : r ≤ s.size) : (rootS (turnS s r)).size = (rootS s).size ∧ rootN (turnS s r) = rootN s := by
  have hz := turnS_size hr
  by_cases h0 : s.size = 0
  · rw [(rootS_empty (s := turnS s r) (by omega)).1, (rootS_empty (s := turnS s r) (by omega)).2, (rootS_empty h0).1, (rootS_empty h0).2]
    exact ⟨rfl, rfl⟩
  · have hl : rootLen (turnS s r) = rootLen s := by
      refine rootLen_eq (by omega) ?_
      rw [hz]
      exact Wm.root_turn (by omega) hr (rootLen_root (by omega)) fun i hi => turnS_byt hr hi
    refine ⟨by rw [rootS_size (by omega), rootS_size (by omega), hl], ?_⟩
    unfold rootN
    rw [if_neg (by omega), if_neg h0, hz, hl]
theorem back_root {s : ByteArray} : rootS (backS s) = backS (rootS s) ∧ rootN (backS s) = rootN s := by
  have hz := backS_size s
  by_cases h0 : s.size = 0
  · rw [(rootS_empty (s := backS s) (by omega)).1, (rootS_empty (s := backS s) (by omega)).2, (rootS_empty h0).1, (rootS_empty h0).2]
    refine ⟨?_, rfl⟩
    rw [str_eq', backS_size]
    exact ⟨rfl, fun i hi => absurd hi (Nat.not_lt_zero i)⟩
  · have R := rootLen_root (s := s) (by omega)
    have hle := rootLen_le (s := s) (by omega)
    have hl : rootLen (backS s) = rootLen s := by
      refine rootLen_eq (by omega) ?_
      rw [hz]
      exact Wm.root_back R fun i hi => backS_byt hi
    constructor
    · rw [str_eq', rootS_size (by omega), backS_size, rootS_size (by omega), hl]
      refine ⟨rfl, fun i hi => ?_⟩
      have hz2 : (rootS s).size = rootLen s := rootS_size (by omega)
      rw [rootS_byt (by omega) (by omega), backS_byt (by omega), backS_byt (by omega), hz2, rootS_byt (by omega) (by omega), R.1.2.2.mod (s.size - 1 - i) (by omega)]
      congr 1
      obtain ⟨c, hc⟩ := R.1.2.1
      have hc1 : 1 ≤ c := by
        rcases Nat.eq_zero_or_pos c with h | h
        · rw [h, Nat.mul_zero] at hc; omega
        · exact h
      obtain ⟨c', rfl⟩ : ∃ c', c = c' + 1 := ⟨c - 1, by omega⟩
      rw [Nat.mul_succ] at hc
      rw [show s.size - 1 - i = (rootLen s - 1 - i) + rootLen s * c' by omega, Nat.add_mul_mod_self_left, Nat.mod_eq_of_lt (by omega)]
    · unfold rootN
      rw [if_neg (by omega), if_neg h0, hz, hl]

set_option maxHeartbeats 1000000 in
theorem wordTurns_ok (s : ByteArray) (n : Int) (w : World) (hs : s.size ≤ 200) :
    Calls Try.prog 9 #[.string s, .int .i64 n] w fun e w' => e = .returned (.bool true) ∧ Below w.heap.size w w' := by
  have hr0 := Int.emod_nonneg n (show ((s.size + 1 : Nat) : Int) ≠ 0 by omega)
  have hr1 := Int.emod_lt_of_pos n (show (0 : Int) < ((s.size + 1 : Nat) : Int) by omega)
  obtain ⟨r, hr⟩ : ∃ r : Nat, r = (n % ((s.size + 1 : Nat) : Int)).toNat := ⟨_, rfl⟩
  have hrs : r ≤ s.size := by omega
  have HR := hid hr
  have HT := hid (turn_root hrs)
  have HB := hid (back_root (s := s))
  have hTz := turnS_size hrs
  have hTz2 : (turnS s r).size ≤ 200 := by omega
  have hBz : (backS s).size ≤ 200 := by rw [backS_size]; omega
  have hRm : (rootS s).size ≤ maxLen := by
    by_cases h0 : s.size = 0
    · rw [(rootS_empty h0).1]; decide
    · rw [rootS_size (by omega)]; have := rootLen_le (s := s) (by omega); unfold maxLen; omega
  have hsm : s.size ≤ maxLen := by unfold maxLen; omega
  have hr' : (r : Int) ≤ (s.size : Int) := by omega
  have hr2 : (0 : Int) ≤ (r : Int) := by omega
  have htu : s.extract r s.size ++ s.extract 0 r = turnS s r := rfl
  have hadd := fun W : World => run_string_add_sum (P := Try.prog) W (s.extract r s.size) (s.extract 0 r) (by rw [size_ext, size_ext]; omega)
  rw [htu] at hadd
  clear hr hr0 hr1 hTz htu
  go_enter Try.func9, Try.ntmps9
  go_wp2_with fail
  with_reducible refine (words_any _).mono ?_
  rintro e w1 ⟨rfl, hb1⟩
  go_wp2_with fail
  rw [show (s.size : Int) + 1 = ((s.size + 1 : Nat) : Int) by omega]
  with_reducible refine (within_any n (s.size + 1) _ (by omega) (by omega)).mono ?_
  rw [← HR.out]
  rintro e w1' ⟨rfl, rfl⟩
  go_wp2_with fail
  with_reducible refine (Root_any s _ hs).mono ?_
  rintro e w2 ⟨rfl, hb2⟩
  go_wp2_with fail
  go_region_held3 (fun _ => True) (trivial) (first | (go_at_call 13; (with_reducible refine (Root_any _ _ hTz2).mono ?_); rw [HT.out.2]; rintro e w3 ⟨rfl, hb3⟩))
  have hb4 := hid (bl_then (bl_then hb1 hb2).drew hb3)
  clear hb1 hb2 hb3 hadd
  go_wp2_with fail
  with_reducible refine (back_any s _ hsm).mono ?_
  rintro e w4 ⟨rfl, hb5⟩
  go_wp2_with fail
  with_reducible refine (Root_any (backS s) _ hBz).mono ?_
  rw [HB.out.1, HB.out.2]
  rintro e w5 ⟨rfl, hb6⟩
  have hb7 := hid (bl_then (bl_then hb4.out hb5) hb6)
  have hT1 := HT.out.1
  clear hb4 hb5 hb6
  go_wp2_with fail
  with_reducible refine (back_any (rootS s) _ hRm).mono ?_
  rintro e w6 ⟨rfl, hb8⟩
  have hfin := hid (bl_then hb7.out hb8)
  clear hb7 hb8
  go_wp2
  go_ret
  exact ⟨rfl, hfin.out⟩

theorem backS_nil : backS ByteArray.empty = ByteArray.empty := by
  rw [str_eq', backS_size]
  exact ⟨rfl, fun i hi => absurd hi (Nat.not_lt_zero i)⟩

set_option maxHeartbeats 1000000 in
theorem wordTurns_large (s : ByteArray) (n : Int) (w : World) (hs : 200 < s.size) (hreach : s.size ≤ 140737488351232) :
    Calls Try.prog 9 #[.string s, .int .i64 n] w fun e w' => e = .returned (.bool true) ∧ Below w.heap.size w w' := by
  have hr0 := Int.emod_nonneg n (show ((s.size + 1 : Nat) : Int) ≠ 0 by omega)
  have hr1 := Int.emod_lt_of_pos n (show (0 : Int) < ((s.size + 1 : Nat) : Int) by omega)
  obtain ⟨r, hr⟩ : ∃ r : Nat, r = (n % ((s.size + 1 : Nat) : Int)).toNat := ⟨_, rfl⟩
  have hrs : r ≤ s.size := by omega
  have HR := hid hr
  have hTz := turnS_size hrs
  have hTz2 : 200 < (turnS s r).size := by omega
  have hBz : 200 < (backS s).size := by rw [backS_size]; omega
  have hsm : s.size ≤ maxLen := by unfold maxLen; omega
  have hr' : (r : Int) ≤ (s.size : Int) := by omega
  have hr2 : (0 : Int) ≤ (r : Int) := by omega
  have htu : s.extract r s.size ++ s.extract 0 r = turnS s r := rfl
  have hadd := fun W : World => run_string_add_sum (P := Try.prog) W (s.extract r s.size) (s.extract 0 r) (by rw [size_ext, size_ext]; omega)
  rw [htu] at hadd
  clear hr hr0 hr1 hTz htu
  go_enter Try.func9, Try.ntmps9
  go_wp2_with fail
  with_reducible refine (words_any _).mono ?_
  rintro e w1 ⟨rfl, hb1⟩
  go_wp2_with fail
  rw [show (s.size : Int) + 1 = ((s.size + 1 : Nat) : Int) by omega]
  with_reducible refine (within_any n (s.size + 1) _ (by omega) (by omega)).mono ?_
  rw [← HR.out]
  rintro e w1' ⟨rfl, rfl⟩
  go_wp2_with fail
  with_reducible refine (Root_large s _ hs).mono ?_
  rintro e w2 ⟨rfl, rfl⟩
  go_wp2_with fail
  go_region_held3 (fun _ => True) (trivial) (first | (go_at_call 13; (with_reducible refine (Root_large _ _ hTz2).mono ?_); rintro e w3 ⟨rfl, rfl⟩))
  have hb4 := hid hb1.drew
  clear hb1 hadd
  go_wp2_with fail
  with_reducible refine (back_any s _ hsm).mono ?_
  rintro e w4 ⟨rfl, hb5⟩
  go_wp2_with fail
  with_reducible refine (Root_large (backS s) _ hBz).mono ?_
  rintro e w5 ⟨rfl, rfl⟩
  have hb7 := hid (bl_then hb4.out hb5)
  clear hb4 hb5
  go_wp2_with fail
  refine (back_any ByteArray.empty _ (by decide)).mono ?_
  rw [backS_nil]
  rintro e w6 ⟨rfl, hb8⟩
  have hfin := hid (bl_then hb7.out hb8)
  clear hb7 hb8
  go_wp2
  go_ret
  exact ⟨rfl, hfin.out⟩

theorem wordTurns_walk (s : ByteArray) (n : Int) (hreach : s.size ≤ 140737488351232) (w : World) :
    Calls Try.prog 9 #[.string s, .int .i64 n] w fun e w' => e = .returned (.bool true) ∧ Below w.heap.size w w' := by
  by_cases hs : s.size ≤ 200
  · exact wordTurns_ok s n w hs
  · exact wordTurns_large s n w (by omega) hreach
end Go.Proofs.Ytihidlcepdpjoaa
