/-
quillkeep.TurnSame: whatever s and k: it answers true.
-/
import Derived.Test.YtljpjjokfkbdcaaTurns
import Derived.Test.YtljpjjokfkbdcaaKeep
namespace Go.Proofs.Ytljpjjokfkbdcaa
open Go.RowKit

/-- The turn of s from the place k. -/
def trS (s : ByteArray) (k : Nat) : ByteArray := s.extract k s.size ++ s.extract 0 k
theorem trS_size {s : ByteArray} {k : Nat} (h : k ≤ s.size) : (trS s k).size = s.size := by unfold trS; rw [size_app, size_ext, size_ext]; omega
theorem trS_lst (s : ByteArray) (k : Nat) : lst (trS s k) = Tm.rt (lst s) k := by
  unfold trS Tm.rt
  rw [lst_app, lst_drop, lst_mid, List.drop_zero, Nat.sub_zero]
theorem turnSame_any (s : ByteArray) (n : Int) (hm : s.size ≤ 140737488351232) (w : World) :
    Calls Try.prog 5 #[.string s, .int .i64 n] w fun e w' => e = .returned (.bool true) ∧ Below w.heap.size w w' := by
  have hr0 := Int.emod_nonneg n (show ((s.size + 1 : Nat) : Int) ≠ 0 by omega)
  have hr1 := Int.emod_lt_of_pos n (show (0 : Int) < ((s.size + 1 : Nat) : Int) by omega)
  obtain ⟨r, hr⟩ : ∃ r : Nat, r = (n % ((s.size + 1 : Nat) : Int)).toNat := ⟨_, rfl⟩
  have hrs : r ≤ s.size := by omega
  have HR := hid hr
  have hTz := trS_size hrs
  have HTL := hid (trS_lst s r)
  have hr' : (r : Int) ≤ (s.size : Int) := by omega
  have hr2 : (0 : Int) ≤ (r : Int) := by omega
  have htu : s.extract r s.size ++ s.extract 0 r = trS s r := rfl
  have hadd := fun W : World => run_string_add_sum (P := Try.prog) W (s.extract r s.size) (s.extract 0 r) (by rw [size_ext, size_ext]; omega)
  rw [htu] at hadd
  generalize trS s r = T at *
  clear hr hr0 hr1 htu
  by_cases hs : s.size ≤ 200
  · have hT : T.size ≤ 200 := by omega
    clear hTz
    go_enter Try.func5, Try.ntmps5
    go_wp2_with fail
    with_reducible refine (turns_any _).mono ?_
    rintro e w1 ⟨rfl, hb1⟩
    go_wp2_with fail
    rw [show (s.size : Int) + 1 = ((s.size + 1 : Nat) : Int) by omega]
    with_reducible refine (within_any n (s.size + 1) _ (by omega) (by omega)).mono ?_
    rw [← HR.out]
    rintro e w1' ⟨rfl, rfl⟩
    go_wp2_with fail
    with_reducible refine (Put_ok s _ hs).mono ?_
    rintro e w2 ⟨t, a, rfl, hp, hb2⟩
    have HP := hid hp
    clear hp
    go_wp2_with fail
    go_region_held3 (fun _ => True) (trivial) (first | (go_at_call 8; (with_reducible refine (Put_ok T _ hT).mono ?_); rintro e w3 ⟨u, b, rfl, hq, hb3⟩))
    have hb4 := hid (bl_then (bl_then hb1 hb2).drew hb3)
    have hq2 := hq
    rw [HTL.out] at hq2
    obtain rfl : t = u := lst_inj (HP.out.turned (by rw [lst_len]; exact hrs) hq2)
    have htt : (t.toList == t.toList) = true := by simp
    clear hb1 hb2 hb3 hadd hq hq2
    go_wp2
    go_ret
    exact ⟨ret_bool (by simp), hb4.out⟩
  · have hs2 : 200 < s.size := by omega
    have hT : 200 < T.size := by omega
    clear hTz
    go_enter Try.func5, Try.ntmps5
    go_wp2_with fail
    with_reducible refine (turns_any _).mono ?_
    rintro e w1 ⟨rfl, hb1⟩
    go_wp2_with fail
    rw [show (s.size : Int) + 1 = ((s.size + 1 : Nat) : Int) by omega]
    with_reducible refine (within_any n (s.size + 1) _ (by omega) (by omega)).mono ?_
    rw [← HR.out]
    rintro e w1' ⟨rfl, rfl⟩
    go_wp2_with fail
    with_reducible refine (Put_large s _ hs2).mono ?_
    rintro e w2 ⟨rfl, rfl⟩
    go_wp2_with fail
    go_region_held3 (fun _ => True) (trivial) (first | (go_at_call 8; (with_reducible refine (Put_large T _ hT).mono ?_); rintro e w3 ⟨rfl, rfl⟩))
    go_wp2
    go_ret
    exact ⟨ret_bool (by simp), hb1.drew⟩
end Go.Proofs.Ytljpjjokfkbdcaa
