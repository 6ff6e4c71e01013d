/-
The walk of quillkeep.LyndonEnds: it returns true.
-/
import Derived.Test.YtddejiblgodgkaaLyndons
namespace Go.Proofs.Ytddejiblgodgkaa
open Go.RowKit

theorem ends_large (s : ByteArray) (at_ : Int) (w : World) (hs : 200 < s.size) :
    Calls Try.prog 7 #[.string s, .int .i64 at_] w fun e w' => e = .returned (.bool true) ∧ Below w.heap.size w w' := by
  go_enter Try.func7, Try.ntmps7
  go_wp2_with fail
  with_reducible refine (lyndons_any _).mono ?_
  rintro e w1 ⟨rfl, hb1⟩
  go_wp2_with fail
  with_reducible refine (Is_large s _ hs).mono ?_
  rintro e w2 ⟨rfl, rfl⟩
  go_wp2_with fail
  with_reducible refine (Split_large s _ hs).mono ?_
  rintro e w2 ⟨rfl, rfl⟩
  go_wp2
  go_ret
  exact ⟨rfl, hb1⟩
theorem ends_empty (s : ByteArray) (at_ : Int) (w : World) (h0 : s.size = 0) :
    Calls Try.prog 7 #[.string s, .int .i64 at_] w fun e w' => e = .returned (.bool true) ∧ Below w.heap.size w w' := by
  have hne : s.toList.isEmpty = true := no_bytes h0
  have hnl : ¬ LynS s := fun h => by have := h.1; rw [wd_len] at this; omega
  go_enter Try.func7, Try.ntmps7
  go_wp2_with fail
  with_reducible refine (lyndons_any _).mono ?_
  rintro e w1 ⟨rfl, hb1⟩
  go_wp2_with fail
  with_reducible refine (Is_no s _ (by omega) hnl).mono ?_
  rintro e w2 ⟨rfl, hd2⟩
  go_wp2_with fail
  with_reducible refine (Split_row s _ (by omega)).mono ?_
  rintro e w3 ⟨A, c, n, g, rfl, hc, hn, hrow, hfact, hb3⟩
  obtain rfl : n = 0 := by omega
  have hb4 := hid (bl_then (bl_then hb1 (hd2.below _)) hb3)
  clear hrow hfact hb1 hb3 hd2
  go_wp2
  go_ret
  exact ⟨rfl, hb4.out⟩
theorem fact_last {s : ByteArray} {n : Nat} {g : Nat → ByteArray} (h : FactG s (n + 1) g) {k : Nat} (hk : k < s.size) : ¬ wd (s.extract k s.size) < wd (g n) := by
  rw [wd_drop]
  refine Lm.Fact.last_le (u := (wd s).take k) h ?_ (List.take_append_drop k (wd s)).symm ?_
  · unfold rowL
    rw [List.range_succ, List.map_append, List.map_append]
    simp
  · rw [Ne, ← List.length_eq_zero_iff, List.length_drop, wd_len]; omega
set_option maxHeartbeats 1000000 in
theorem ends_some (s : ByteArray) (at_ : Int) (w : World) (hs : s.size ≤ 200) (h0 : 0 < s.size) :
    Calls Try.prog 7 #[.string s, .int .i64 at_] w fun e w' => e = .returned (.bool true) ∧ Below w.heap.size w w' := by
  have hne := some_bytes h0
  go_enter Try.func7, Try.ntmps7
  go_wp2_with fail
  with_reducible refine (lyndons_any _).mono ?_
  rintro e w1 ⟨rfl, hb1⟩
  go_wp2_with fail
  with_reducible refine (Is_ok s _ hs).mono ?_
  rintro e w2 ⟨⟨b, hb, rfl⟩, hd2⟩
  have HB := hid hb
  clear hb
  go_wp2_with fail
  with_reducible refine (Split_row s _ hs).mono ?_
  rintro e w3 ⟨A, c, n, g, rfl, hc, hn, hrow, hfact, hb3⟩
  have hb4 := bl_then (bl_then hb1 (hd2.below _)) hb3
  clear hb1 hb3 hd2
  obtain ⟨m, rfl⟩ : ∃ m, n = m + 1 := by
    cases n with
    | zero =>
      have := congrArg List.length hfact.all
      rw [wd_len] at this
      simp [rowL] at this
      omega
    | succ m => exact ⟨m, rfl⟩
  obtain ⟨bk, o, hA, hbk, hck⟩ := hrow m (by omega)
  subst hA
  have HF := hid hfact
  clear hfact hrow hbk
  have hnz : (((m + 1 : Nat) : Int) == 0) = false := beq_eq_false_iff_ne.2 (by omega)
  go_wp2_with fail
  with_reducible refine (within_any at_ s.size _ h0 (by omega)).mono ?_
  rintro e w4 ⟨rfl, rfl⟩
  have hk : (at_ % (s.size : Int)).toNat < s.size := by
    have h1 := Int.emod_nonneg at_ (b := (s.size : Int)) (by omega)
    have h2 := Int.emod_lt_of_pos at_ (b := (s.size : Int)) (by omega)
    omega
  generalize (at_ % (s.size : Int)).toNat = k at *
  have hk' : (k : Int) ≤ (s.size : Int) := by omega
  obtain ⟨g3, g4⟩ := leq_yes (fact_last HF.out hk)
  have hm1 : ((m + 1 : Nat) : Int) - 1 = (m : Int) := by omega
  have hm2 : (m : Int) + 1 - 1 = (m : Int) := by omega
  have hwp : IntKind.i64.wrap (m : Int) = (m : Int) := IntWalk.i64_in _ (by omega)
  have hm3 : (m : Int) < ((m + 1 : Nat) : Int) := by omega
  have hm4 : (m : Int) < (m : Int) + 1 := by omega
  have hm0 : (0 : Int) ≤ (m : Int) := by omega
  have hb5 := hid hb4
  clear hb4
  by_cases hbt : b = true
  · subst hbt
    by_cases hk0 : k = 0
    · subst hk0
      have ex : s.extract 0 s.size = s := wd_inj (by rw [wd_take, ← wd_len, List.take_length])
      rw [ex] at g3 g4
      clear ex
      go_wp2
      go_quiet (fail)
      go_wp2
      go_ret
      exact ⟨rfl, bl_drewN hb5.out _⟩
    · have hkz : ((k : Int) == 0) = false := beq_eq_false_iff_ne.2 (by omega)
      have hless : wd s < wd (s.extract k s.size) := by
        rw [wd_drop]
        refine Lm.Lyn.end_ (u := (wd s).take k) (HB.out.1 (by trivial)) (List.take_append_drop k (wd s)).symm ?_ ?_
        · rw [Ne, ← List.length_eq_zero_iff, List.length_take, wd_len]; omega
        · rw [Ne, ← List.length_eq_zero_iff, List.length_drop, wd_len]; omega
      have g1 := less_yes hless
      clear hless
      go_wp2
      go_quiet (fail)
      go_wp2
      go_ret
      exact ⟨rfl, bl_drewN hb5.out _⟩
  · obtain rfl : b = false := by cases b; rfl; exact absurd rfl hbt
    clear hbt
    go_wp2
    go_quiet (fail)
    go_wp2
    go_ret
    exact ⟨rfl, bl_drewN hb5.out _⟩
theorem ends_walk (s : ByteArray) (at_ : Int) (_ : s.size ≤ maxLen) (_ : (Lit.int .i64 at_).wf = true) (w : World) :
    Calls Try.prog 7 #[.string s, .int .i64 at_] w fun e w' => e = .returned (.bool true) ∧ Below w.heap.size w w' := by
  by_cases h : s.size ≤ 200
  · by_cases h0 : 0 < s.size
    · exact ends_some s at_ w h h0
    · exact ends_empty s at_ w (by omega)
  · exact ends_large s at_ w (by omega)
end Go.Proofs.Ytddejiblgodgkaa
