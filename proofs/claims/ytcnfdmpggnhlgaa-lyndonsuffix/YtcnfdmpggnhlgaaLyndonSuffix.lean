/-
The walk of quillkeep.LyndonSuffix: it returns true for every string.
-/
import Derived.Test.YtcnfdmpggnhlgaaLyndons
import Derived.Test.YtcnfdmpggnhlgaaEnds
import Derived.Test.YtcnfdmpggnhlgaaUnlike
import Derived.Test.YtcnfdmpggnhlgaaLsMath
namespace Go.Proofs.Ytcnfdmpggnhlgaa
open Go.RowKit

theorem lyndonSuffix_large (s : ByteArray) (w : World) (hs : 200 < s.size) :
    Calls Try.prog 7 #[.string s] w fun e w' => e = .returned (.bool true) ∧ Below w.heap.size w w' := by
  go_enter Try.func7, Try.ntmps7
  go_wp2_with fail
  with_reducible refine (lyndons_any _).mono ?_
  rintro e w1 ⟨rfl, hb1⟩
  go_wp2_with fail
  with_reducible refine (ends_any _).mono ?_
  rintro e w2 ⟨rfl, hb2⟩
  go_wp2_with fail
  with_reducible refine (Split_large s _ hs).mono ?_
  rintro e w3 ⟨rfl, rfl⟩
  go_wp2_with fail
  with_reducible refine (Order_large s _ hs).mono ?_
  rintro e w4 ⟨rfl, rfl⟩
  go_wp2
  go_ret
  exact ⟨rfl, bl_then hb1 hb2⟩
theorem lyndonSuffix_empty (s : ByteArray) (w : World) (hz : s.size = 0) :
    Calls Try.prog 7 #[.string s] w fun e w' => e = .returned (.bool true) ∧ Below w.heap.size w w' := by
  have hO := fun W => Order_ok s W (by omega)
  have hne := no_bytes hz
  rw [hz] at hO
  go_enter Try.func7, Try.ntmps7
  go_wp2_with fail
  with_reducible refine (lyndons_any _).mono ?_
  rintro e w1 ⟨rfl, hb1⟩
  go_wp2_with fail
  with_reducible refine (ends_any _).mono ?_
  rintro e w2 ⟨rfl, hb2⟩
  go_wp2_with fail
  with_reducible refine (Split_row s _ (by omega)).mono ?_
  rintro e w3 ⟨A, c, n, g, rfl, hc, hn, hrow, hfact, hb3⟩
  obtain rfl : n = 0 := by omega
  clear hrow hfact hc hn hz
  go_wp2_with fail
  with_reducible refine (hO _).mono ?_
  rintro e w4 ⟨B, rfl, hB, hr, hb4⟩
  have HB := hid (bl_then (bl_then (bl_then hb1 hb2) hb3) hb4)
  clear hr hb1 hb2 hb3 hb4
  go_wp2
  go_ret
  exact ⟨rfl, HB.out⟩
set_option maxHeartbeats 1000000 in
theorem lyndonSuffix_ok (s : ByteArray) (w : World) (hs : s.size ≤ 200) (h0 : 0 < s.size) :
    Calls Try.prog 7 #[.string s] w fun e w' => e = .returned (.bool true) ∧ Below w.heap.size w w' := by
  have hne := some_bytes h0
  go_enter Try.func7, Try.ntmps7
  go_wp2_with fail
  with_reducible refine (lyndons_any _).mono ?_
  rintro e w1 ⟨rfl, hb1⟩
  go_wp2_with fail
  with_reducible refine (ends_any _).mono ?_
  rintro e w2 ⟨rfl, hb2⟩
  go_wp2_with fail
  with_reducible refine (Split_row s _ hs).mono ?_
  rintro e w3 ⟨A, c, n, g, rfl, hc, hn, hrow, hfact, hb3⟩
  have hn0 : 0 < n := by
    rcases Nat.eq_zero_or_pos n with e | e
    · subst e
      have := congrArg List.length hfact.all
      rw [wd_len] at this
      simp [rowL] at this
      omega
    · exact e
  have hnz : ((n : Int) == 0) = false := beq_eq_false_iff_ne.2 (by omega)
  go_wp2_with fail
  with_reducible refine (Order_ok s _ hs).mono ?_
  rintro e w4 ⟨B, rfl, hB, hr, hb4⟩
  have HB := hid (bl_then (bl_then (bl_then hb1 hb2) hb3) hb4)
  have HR := hid (irow_of hr)
  have HS := hid (hrow.keep hb4)
  have HF : Hid (Lm.Fact (lst s) ((rowL g n).map wd)) := hfact
  have hwl : ((rowL g n).map wd).length = n := by rw [List.length_map, rowL_len]
  have HWL := hid hwl
  have HWG : Hid (∀ j (h : j < ((rowL g n).map wd).length), ((rowL g n).map wd)[j].length = (g j).size) := by
    intro j h
    rw [List.getElem_map, wd_len]
    congr 1
    rw [← getD_lt (d := ByteArray.empty), rowL_get (by omega)]
  generalize (rowL g n).map wd = ws at HF HWL HWG
  clear hrow hfact hb1 hb2 hb3 hb4 hr hwl
  go_wp2
  go_loopw [7, 8, 63] (fun x y z wr => ∃ p L j : Nat, j ≤ n ∧ p ≤ s.size ∧ L ≤ s.size ∧ x = .int .i64 (p : Int) ∧ y = .int .i64 (L : Int) ∧ z = .int .i64 (j : Int) ∧ Hid (Sm.LsAt (lst s) ws j p L) ∧ wr = w4) (fun _ _ z _ => n - (intOf z).toNat)
  case atStart => exact ⟨0, s.size, 0, by omega, by omega, by omega, rfl, rfl, rfl, hid (by have := Sm.ls_start HF.out; rwa [lst_len] at this), rfl⟩
  case round =>
    obtain ⟨p, L, j, hj, hp, hL, rfl, rfl, rfl, HL, rfl⟩ := hrel
    by_cases hlt : j < n
    · obtain ⟨b, o, hA, _, hcj⟩ := HS.out j hlt
      subst hA
      obtain ⟨k, hk, hsa, hkL, hnext⟩ := Sm.ls_step HF.out HL.out (by have := HWL.out; omega)
      rw [HWG.out] at hnext
      have hle := hnext.le
      rw [lst_len] at hk hle
      have HN := hid hnext
      have hlt' : (j : Int) < (n : Int) := by omega
      have hI : ∀ c, Calls Try.prog 29 #[.slice (some ⟨B, 0, none⟩) s.size c, .int .i64 (p : Int)] wr fun e w' => e = .returned (.int .i64 (k : Int)) ∧ wr = w' := fun c =>
        index_yes (j := k) HR.out (by unfold maxLen; omega) hk (by unfold sg; rw [hsa]) fun k' hk' e => by
          unfold sg at e
          have := Sm.sa_inj (s := lst s) (i := k') (k := k) (by rw [lst_len]; omega) (by rw [lst_len]; omega) (by omega)
          omega
      have HI := hid hI
      generalize hgj : (g j).size = l at hle HN
      have hk0 : ¬ (k : Int) < 0 := by omega
      have hkL' : ¬ (L : Int) ≤ (k : Int) := by omega
      have hkL2 : decide ((L : Int) ≤ (k : Int)) = false := decide_eq_false hkL'
      have hkL3 : decide (L ≤ k) = false := decide_eq_false (by omega)
      clear hnext hI hsa HL
      go_wp2_with fail
      with_reducible refine (HI.out _).mono ?_
      rintro e w5 ⟨rfl, rfl⟩
      go_wp2
      go_roundw
      case rel => exact ⟨p + l, k, j + 1, by omega, by omega, by omega, by go_num, rfl, by go_num, HN, by trivial⟩
      case measure => simp [intOf]; omega
    · obtain rfl : n = j := by omega
      obtain ⟨e1, e2⟩ := Sm.ls_end HF.out (by rw [HWL.out]; exact HL.out) (by rw [HWL.out]; exact hn0)
      rw [lst_len] at e1
      subst e1
      subst e2
      clear HL
      go_wp2
      go_ret
      exact ⟨rfl, HB.out⟩
theorem lyndonSuffix_walk (s : ByteArray) (_ : s.size ≤ maxLen) (w : World) :
    Calls Try.prog 7 #[.string s] w fun e w' => e = .returned (.bool true) ∧ Below w.heap.size w w' := by
  by_cases hs : s.size ≤ 200
  · rcases Nat.eq_zero_or_pos s.size with h0 | h0
    · exact lyndonSuffix_empty s w h0
    · exact lyndonSuffix_ok s w hs h0
  · exact lyndonSuffix_large s w (by omega)
end Go.Proofs.Ytcnfdmpggnhlgaa
