/-
The contract of slices.Max at a slice of numbers, and where a word stands first in another one.
-/
import Derived.Test.YtgeikpfbgdgciaaBase
namespace Go.Proofs.Ytgeikpfbgdgciaa
open Go.RowKit

theorem IRow.cells {w : World} {b o n : Nat} {g : Nat → Int} (h : IRow w (some ⟨b, o, none⟩) n g) : ∀ k, k < n → w.cell? ⟨b, o + k, none⟩ = some (.int .i64 (g k)) := by
  intro k hk
  obtain ⟨b', o', e, _, h2⟩ := h k hk
  injection e with e
  injection e with e1 e2
  subst e1 e2
  exact h2
theorem maxi_any (b o n c : Nat) (h : Nat → Nat) (w : World) (H : ∀ k, k < n → w.cell? ⟨b, o + k, none⟩ = some (.int .i64 (h k : Int))) (h0 : 0 < n) (hn : n ≤ maxLen) :
    Calls Try.prog 21 #[.slice (some ⟨b, o, none⟩) n c] w fun e w' => (∃ m : Nat, e = .returned (.int .i64 (m : Int)) ∧ (∃ k, k < n ∧ h k = m) ∧ ∀ k, k < n → h k ≤ m) ∧ w = w' := by
  unfold maxLen at hn
  have HH := hid H
  have hc0 := H 0 h0
  rw [Nat.add_zero] at hc0
  clear H
  have h0' : (0 : Int) < (n : Int) := by omega
  have h1' : decide ((n : Int) < 1) = false := decide_eq_false (by omega)
  go_enter Try.func21, Try.ntmps21
  go_wp2
  clear hc0
  go_loopw [3, 4] (fun x y wr => ∃ m k : Nat, 0 < k ∧ k ≤ n ∧ x = .int .i64 (m : Int) ∧ y = .int .i64 (k : Int) ∧ Hid (∃ j, j < k ∧ h j = m) ∧ Hid (∀ j, j < k → h j ≤ m) ∧ wr = w) (fun _ y _ => n - (intOf y).toNat)
  case atStart =>
    refine ⟨h 0, 1, by omega, by omega, rfl, rfl, hid ⟨0, by omega, rfl⟩, hid (fun j hj => ?_), rfl⟩
    obtain rfl : j = 0 := by omega
    exact Nat.le_refl _
  case round =>
    obtain ⟨m, k, hk0, hk, rfl, rfl, H1, H2, rfl⟩ := hrel
    by_cases hlt : k < n
    · have hck := HH.out k hlt
      have hlt' : (k : Int) < (n : Int) := by omega
      obtain ⟨v, hv⟩ : ∃ v, v = h k := ⟨_, rfl⟩
      rw [← hv] at hck
      go_wp2
      go_roundw
      case measure => simp [intOf]; omega
      case rel =>
        refine ⟨max m v, k + 1, by omega, by omega, ?_, by go_num, ?_, ?_, by trivial⟩
        · congr 1
          by_cases hmv : m < v
          · rw [Nat.max_eq_right (by omega)]
            omega
          · rw [Nat.max_eq_left (by omega)]
            omega
        · obtain ⟨j, hj, e⟩ := H1.out
          by_cases hmv : m < v
          · exact ⟨k, by omega, by rw [Nat.max_eq_right (by omega)]; exact hv.symm⟩
          · exact ⟨j, by omega, by rw [Nat.max_eq_left (by omega)]; exact e⟩
        · intro j hj
          by_cases hjk : j < k
          · have := H2.out j hjk; omega
          · obtain rfl : j = k := by omega
            omega
    · have hdl : decide ((k : Int) < (n : Int)) = false := decide_eq_false (by omega)
      obtain rfl : k = n := by omega
      go_wp2
      go_ret
      exact ⟨⟨m, rfl, H1.out, H2.out⟩, rfl⟩
theorem maxi_is (b o n c m : Nat) (h : Nat → Nat) (w : World) (H : ∀ k, k < n → w.cell? ⟨b, o + k, none⟩ = some (.int .i64 (h k : Int))) (h0 : 0 < n) (hn : n ≤ maxLen) (h1 : ∃ k, k < n ∧ h k = m) (h2 : ∀ k, k < n → h k ≤ m) :
    Calls Try.prog 21 #[.slice (some ⟨b, o, none⟩) n c] w fun e w' => e = .returned (.int .i64 (m : Int)) ∧ w' = w := by
  refine (maxi_any b o n c h w H h0 hn).mono ?_
  rintro e w1 ⟨⟨m', rfl, ⟨k, hk, e1⟩, h3⟩, rfl⟩
  obtain ⟨k2, hk2, e2⟩ := h1
  have := h3 k2 hk2
  have := h2 k hk
  obtain rfl : m' = m := by omega
  exact ⟨rfl, rfl⟩
end Go.Proofs.Ytgeikpfbgdgciaa
