/-
The contract of quillref.RingErr: it answers as ring.Check.
-/
import Derived.Test.YtiphclgafhbplaaRCounts
namespace Go.Proofs.Ytiphclgafhbplaa
open Go.RowKit

theorem RErr_arg (k n : Int) (w : World) (h : k < 1 ∨ 8 < k ∨ n < 1 ∨ 512 < n) :
    Calls Try.prog 10 #[.int .i64 k, .int .i64 n] w fun e w' => e = .returned (.int .i64 1) ∧ w = w' := by
  go_enter Try.func10, Try.ntmps10
  by_cases h1 : k < 1
  · have d1 : decide (k < 1) = true := decide_eq_true h1
    go_wp2
    go_ret
    exact ⟨rfl, rfl⟩
  · have d1 : decide (k < 1) = false := decide_eq_false h1
    by_cases h2 : 8 < k
    · have d2 : decide (8 < k) = true := decide_eq_true h2
      go_wp2
      go_ret
      exact ⟨rfl, rfl⟩
    · have d2 : decide (8 < k) = false := decide_eq_false h2
      by_cases h3 : n < 1
      · have d3 : decide (n < 1) = true := decide_eq_true h3
        go_wp2
        go_ret
        exact ⟨rfl, rfl⟩
      · have d3 : decide (n < 1) = false := decide_eq_false h3
        have h4 : 512 < n := by omega
        have d4 : decide (512 < n) = true := decide_eq_true h4
        go_wp2
        go_ret
        exact ⟨rfl, rfl⟩
theorem min_step {k i c : Nat} (h1 : 1 ≤ k) (h : c = min (k ^ i) 513) : min (c * k) 513 = min (k ^ (i + 1)) 513 := by
  rw [pow_next]
  by_cases hx : k ^ i ≤ 513
  · rw [h, Nat.min_eq_left hx]
  · have e : c = 513 := by rw [h, Nat.min_eq_right (by omega)]
    have h2 : 513 * 1 ≤ c * k := by rw [e]; exact Nat.mul_le_mul_left _ h1
    have h3 : 513 * 1 ≤ k ^ i * k := Nat.mul_le_mul (by omega) h1
    omega
set_option maxHeartbeats 400000 in
theorem RErr_in (k n : Nat) (w : World) (h1 : 1 ≤ k) (h8 : k ≤ 8) (hn1 : 1 ≤ n) (hn5 : n ≤ 512) :
    Calls Try.prog 10 #[.int .i64 (k : Int), .int .i64 (n : Int)] w fun e w' => e = .returned (.int .i64 (if 512 < k ^ n then 2 else 0)) ∧ w = w' := by
  have d1 : decide ((k : Int) < 1) = false := decide_eq_false (by omega)
  have d2 : decide ((8 : Int) < (k : Int)) = false := decide_eq_false (by omega)
  have d3 : decide ((n : Int) < 1) = false := decide_eq_false (by omega)
  have d4 : decide ((512 : Int) < (n : Int)) = false := decide_eq_false (by omega)
  obtain ⟨r, hr⟩ : ∃ r : Int, r = if 512 < k ^ n then 2 else 0 := ⟨_, rfl⟩
  rw [← hr]
  have HR := hid hr
  clear hr
  go_enter Try.func10, Try.ntmps10
  go_wp2
  go_loopw [5, 21] (fun x y wr => ∃ i c : Nat, i ≤ n ∧ x = .int .i64 (c : Int) ∧ y = .int .i64 (i : Int) ∧ Hid (c = min (k ^ i) 513) ∧ c ≤ 513 ∧ wr = w) (fun _ y _ => n - (intOf y).toNat)
  case atStart => exact ⟨0, 1, by omega, rfl, rfl, hid (by simp), by omega, rfl⟩
  case round =>
    obtain ⟨i, c, hi, rfl, rfl, HC, hc, rfl⟩ := hrel
    by_cases hlt : i < n
    · obtain ⟨c', hc'⟩ : ∃ c', c' = c * k := ⟨_, rfl⟩
      have ec : (c : Int) * (k : Int) = (c' : Int) := by rw [hc']; simp
      have hb : c' ≤ 513 * 8 := by rw [hc']; exact Nat.mul_le_mul hc h8
      have hw : IntKind.i64.wrap (c' : Int) = (c' : Int) := IntWalk.i64_in _ (by omega)
      have HC' := hid (show min c' 513 = min (k ^ (i + 1)) 513 by rw [hc', min_step h1 HC.out])
      clear hc'
      by_cases hg : 513 < c'
      · have dg : decide ((513 : Int) < (c' : Int)) = true := decide_eq_true (by omega)
        have hm1 : (if (513 : Int) < (c' : Int) then (513 : Int) else (c' : Int)) = 513 := if_pos (by omega)
        go_wp2
        go_roundw
        case measure => simp [intOf]; omega
        case rel => exact ⟨i + 1, 513, by omega, by trivial, by go_num, hid (by rw [← HC'.out]; omega), by omega, by trivial⟩
      · have dg : decide ((513 : Int) < (c' : Int)) = false := decide_eq_false (by omega)
        have hm1 : (if (513 : Int) < (c' : Int) then (513 : Int) else (c' : Int)) = (c' : Int) := if_neg (by omega)
        go_wp2
        go_roundw
        case measure => simp [intOf]; omega
        case rel => exact ⟨i + 1, c', by omega, by trivial, by go_num, hid (by rw [← HC'.out]; omega), by omega, by trivial⟩
    · have dl : decide ((i : Int) < (n : Int)) = false := decide_eq_false (by omega)
      obtain rfl : n = i := by omega
      by_cases hg : 512 < c
      · have dg : decide ((512 : Int) < (c : Int)) = true := decide_eq_true (by omega)
        go_wp2
        go_ret
        refine ⟨?_, by trivial⟩
        rw [HR.out, if_pos]
        · rfl
        have := HC.out
        omega
      · have dg : decide ((512 : Int) < (c : Int)) = false := decide_eq_false (by omega)
        go_wp2
        go_ret
        refine ⟨?_, by trivial⟩
        rw [HR.out, if_neg]
        · rfl
        have := HC.out
        omega
theorem RErr_any (k n : Int) (w : World) : Calls Try.prog 10 #[.int .i64 k, .int .i64 n] w fun e w' => e = .returned (.int .i64 (ringErr k n)) ∧ w = w' := by
  unfold ringErr
  by_cases h1 : k < 1 ∨ 8 < k ∨ n < 1 ∨ 512 < n
  · rw [if_pos h1]; exact RErr_arg k n w h1
  · rw [if_neg h1]
    have := RErr_in k.toNat n.toNat w (by omega) (by omega) (by omega) (by omega)
    rw [show ((k.toNat : Nat) : Int) = k by omega, show ((n.toNat : Nat) : Int) = n by omega] at this
    exact this
end Go.Proofs.Ytiphclgafhbplaa
