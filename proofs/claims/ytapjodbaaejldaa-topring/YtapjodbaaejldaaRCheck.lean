
/-
The contract of ring.Check.
-/
import Derived.Test.YtapjodbaaejldaaBase
import Derived.Test.YtapjodbaaejldaaMathAll
namespace Go.Proofs.Ytapjodbaaejldaa
open Go.RowKit

theorem RCheck_arg (k n : Int) (w : World) (h : k < 1 ∨ 8 < k ∨ n < 1 ∨ 512 < n) :
    Calls Try.prog 101 #[.int .i64 k, .int .i64 n] w fun e w' => e = .returned (.int .i64 1) ∧ w = w' := by
  go_enter Try.func101, Try.ntmps101
  by_cases h1 : k < 1
  · have d1 : decide (k < 1) = true := decide_eq_true h1
    go_wp2
    go_ret
    exact ⟨rfl, rfl⟩
  · have d1 : decide (k < 1) = false := decide_eq_false h1
    by_cases h2 : 8 < k
    · have d2 : decide (8 < k) = true := decide_eq_true h2
      go_wp2
      go_ret
      exact ⟨rfl, rfl⟩
    · have d2 : decide (8 < k) = false := decide_eq_false h2
      by_cases h3 : n < 1
      · have d3 : decide (n < 1) = true := decide_eq_true h3
        go_wp2
        go_ret
        exact ⟨rfl, rfl⟩
      · have d3 : decide (n < 1) = false := decide_eq_false h3
        have h4 : 512 < n := by omega
        have d4 : decide (512 < n) = true := decide_eq_true h4
        go_wp2
        go_ret
        exact ⟨rfl, rfl⟩
theorem pow_next (k i : Nat) : k ^ (i + 1) = k ^ i * k := Nat.pow_succ _ _
set_option maxHeartbeats 400000 in
theorem RCheck_in (k n : Nat) (w : World) (h1 : 1 ≤ k) (h8 : k ≤ 8) (hn1 : 1 ≤ n) (hn5 : n ≤ 512) :
    Calls Try.prog 101 #[.int .i64 (k : Int), .int .i64 (n : Int)] w fun e w' => e = .returned (.int .i64 (if 512 < k ^ n then 2 else 0)) ∧ w = w' := by
  have d1 : decide ((k : Int) < 1) = false := decide_eq_false (by omega)
  have d2 : decide ((8 : Int) < (k : Int)) = false := decide_eq_false (by omega)
  have d3 : decide ((n : Int) < 1) = false := decide_eq_false (by omega)
  have d4 : decide ((512 : Int) < (n : Int)) = false := decide_eq_false (by omega)
  obtain ⟨r, hr⟩ : ∃ r : Int, r = if 512 < k ^ n then 2 else 0 := ⟨_, rfl⟩
  rw [← hr]
  have HR := hid hr
  clear hr
  go_enter Try.func101, Try.ntmps101
  go_wp2
  go_loopw [5, 21] (fun x y wr => ∃ i c : Nat, i ≤ n ∧ x = .int .i64 (c : Int) ∧ y = .int .i64 (i : Int) ∧ Hid (c = k ^ i) ∧ c ≤ 512 ∧ wr = w) (fun _ y _ => n - (intOf y).toNat)
  case atStart => exact ⟨0, 1, by omega, rfl, rfl, hid (by simp), by omega, rfl⟩
  case round =>
    obtain ⟨i, c, hi, rfl, rfl, HC, hc, rfl⟩ := hrel
    by_cases hlt : i < n
    · obtain ⟨c', hc'⟩ : ∃ c', c' = c * k := ⟨_, rfl⟩
      have ec : (c : Int) * (k : Int) = (c' : Int) := by rw [hc']; simp
      have hb : c' ≤ 512 * 8 := by rw [hc']; exact Nat.mul_le_mul hc h8
      have hw : IntKind.i64.wrap (c' : Int) = (c' : Int) := IntWalk.i64_in _ (by omega)
      have HC' := hid (show c' = k ^ (i + 1) by rw [hc', HC.out, pow_next])
      clear hc'
      by_cases hg : 512 < c'
      · have dg : decide ((512 : Int) < (c' : Int)) = true := decide_eq_true (by omega)
        go_wp2
        go_ret
        refine ⟨?_, by trivial⟩
        rw [HR.out, if_pos]
        · rfl
        have := Rm.pow_mono (k := k) (i := i + 1) (n := n) h1 hlt
        have h2 := HC'.out
        omega
      · have dg : decide ((512 : Int) < (c' : Int)) = false := decide_eq_false (by omega)
        go_wp2
        go_roundw
        case measure => simp [intOf]; omega
        case rel => exact ⟨i + 1, c', by omega, by trivial, by go_num, HC', by omega, by trivial⟩
    · have dl : decide ((i : Int) < (n : Int)) = false := decide_eq_false (by omega)
      obtain rfl : i = n := by omega
      go_wp2
      go_ret
      refine ⟨?_, by trivial⟩
      rw [HR.out, if_neg]
      · rfl
      have := HC.out
      omega
theorem RCheck_ok (k n : Nat) (w : World) (h : Rm.Ok k n) : Calls Try.prog 101 #[.int .i64 (k : Int), .int .i64 (n : Int)] w fun e w' => e = .returned (.int .i64 0) ∧ w = w' := by
  refine (RCheck_in k n w h.k1 h.k8 h.n1 h.n5).mono ?_
  rintro e w1 ⟨rfl, rfl⟩
  rw [if_neg (by have := h.few; omega)]
  exact ⟨rfl, rfl⟩
/-- What ring.Check answers. -/
def ringErr (k n : Int) : Int := if k < 1 ∨ 8 < k ∨ n < 1 ∨ 512 < n then 1 else if 512 < k.toNat ^ n.toNat then 2 else 0
theorem ringErr_ok {k n : Int} (h : ringErr k n = 0) : ∃ K N : Nat, k = (K : Int) ∧ n = (N : Int) ∧ Rm.Ok K N := by
  unfold ringErr at h
  by_cases h1 : k < 1 ∨ 8 < k ∨ n < 1 ∨ 512 < n
  · rw [if_pos h1] at h; omega
  · rw [if_neg h1] at h
    by_cases h2 : 512 < k.toNat ^ n.toNat
    · rw [if_pos h2] at h; omega
    · exact ⟨k.toNat, n.toNat, by omega, by omega, by omega, by omega, by omega, by omega, by omega⟩
theorem ringErr_of {k n : Nat} (h : Rm.Ok k n) : ringErr k n = 0 := by
  have := h.k1; have := h.k8; have := h.n1; have := h.n5; have := h.few
  unfold ringErr
  rw [if_neg (by omega), if_neg (by simp; omega)]
theorem ringErr_01 (k n : Int) : ringErr k n = 0 ∨ ringErr k n = 1 ∨ ringErr k n = 2 := by
  unfold ringErr
  split
  · simp
  · split <;> simp
theorem RCheck_any (k n : Int) (w : World) : Calls Try.prog 101 #[.int .i64 k, .int .i64 n] w fun e w' => e = .returned (.int .i64 (ringErr k n)) ∧ w = w' := by
  unfold ringErr
  by_cases h1 : k < 1 ∨ 8 < k ∨ n < 1 ∨ 512 < n
  · rw [if_pos h1]; exact RCheck_arg k n w h1
  · rw [if_neg h1]
    have := RCheck_in k.toNat n.toNat w (by omega) (by omega) (by omega) (by omega)
    rw [show ((k.toNat : Nat) : Int) = k by omega, show ((n.toNat : Nat) : Int) = n by omega] at this
    exact this
end Go.Proofs.Ytapjodbaaejldaa
