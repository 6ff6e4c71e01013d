
/-
The contract of slices.Max at a slice of bytes.
-/
import Derived.Test.YtapjodbaaejldaaBack
namespace Go.Proofs.Ytapjodbaaejldaa
open Go.RowKit

theorem max_any (b n c : Nat) (h : Nat → UInt8) (w : World) (H : BRow w b n h) (h0 : 0 < n) (hn : n ≤ maxLen) :
    Calls Try.prog 162 #[.slice (some ⟨b, 0, none⟩) n c] w fun e w' => (∃ m : Nat, e = .returned (.int .u8 (m : Int)) ∧ (∃ k, k < n ∧ (h k).toNat = m) ∧ ∀ k, k < n → (h k).toNat ≤ m) ∧ w = w' := by
  unfold maxLen at hn
  have HH := hid H
  have hc0 := (H 0 h0).1
  clear H
  have h0' : (0 : Int) < (n : Int) := by omega
  have h1' : decide ((n : Int) < 1) = false := decide_eq_false (by omega)
  go_enter Try.func162, Try.ntmps162
  go_wp2
  clear hc0
  go_loopw [3, 4] (fun x y wr => ∃ m k : Nat, 0 < k ∧ k ≤ n ∧ x = .int .u8 (m : Int) ∧ y = .int .i64 (k : Int) ∧ Hid (∃ j, j < k ∧ (h j).toNat = m) ∧ Hid (∀ j, j < k → (h j).toNat ≤ m) ∧ wr = w) (fun _ y _ => n - (intOf y).toNat)
  case atStart =>
    refine ⟨(h 0).toNat, 1, by omega, by omega, rfl, rfl, hid ⟨0, by omega, rfl⟩, hid (fun j hj => ?_), rfl⟩
    obtain rfl : j = 0 := by omega
    exact Nat.le_refl _
  case round =>
    obtain ⟨m, k, hk0, hk, rfl, rfl, H1, H2, rfl⟩ := hrel
    by_cases hlt : k < n
    · have hck := (HH.out k hlt).1
      have hlt' : (k : Int) < (n : Int) := by omega
      obtain ⟨v, hv⟩ : ∃ v, v = (h k).toNat := ⟨_, rfl⟩
      rw [← hv] at hck
      go_wp2
      go_roundw
      case measure => simp [intOf]; omega
      case rel =>
        refine ⟨max m v, k + 1, by omega, by omega, ?_, by go_num, ?_, ?_, by trivial⟩
        · congr 1
          by_cases hmv : m < v
          · rw [Nat.max_eq_right (by omega)]
            omega
          · rw [Nat.max_eq_left (by omega)]
            omega
        · obtain ⟨j, hj, e⟩ := H1.out
          by_cases hmv : m < v
          · exact ⟨k, by omega, by rw [Nat.max_eq_right (by omega)]; exact hv.symm⟩
          · exact ⟨j, by omega, by rw [Nat.max_eq_left (by omega)]; exact e⟩
        · intro j hj
          by_cases hjk : j < k
          · have := H2.out j hjk; omega
          · obtain rfl : j = k := by omega
            omega
    · have hdl : decide ((k : Int) < (n : Int)) = false := decide_eq_false (by omega)
      obtain rfl : k = n := by omega
      go_wp2
      go_ret
      exact ⟨⟨m, rfl, H1.out, H2.out⟩, rfl⟩
end Go.Proofs.Ytapjodbaaejldaa
