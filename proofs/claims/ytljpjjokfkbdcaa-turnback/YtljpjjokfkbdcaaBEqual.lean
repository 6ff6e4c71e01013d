/-
The contract of slices.Equal at []byte.
-/
import Derived.Test.YtljpjjokfkbdcaaBSort1
namespace Go.Proofs.Ytljpjjokfkbdcaa
open Go.RowKit

/-- A row of bytes that is read. -/
def RB (w : World) (b n : Nat) (h : Nat → Nat) : Prop := ∀ k, k < n → w.cell? ⟨b, k, none⟩ = some (.int .u8 (h k : Int))
theorem bequal_same (b1 b2 n c1 c2 : Nat) (h : Nat → Nat) (w : World) (H1 : RB w b1 n h) (H2 : RB w b2 n h) (hn : n ≤ 1000) :
    Calls Try.prog 17 #[.slice (some ⟨b1, 0, none⟩) n c1, .slice (some ⟨b2, 0, none⟩) n c2] w fun e w' => e = .returned (.bool true) ∧ Drew w w' := by
  have HA := hid H1
  have HB := hid H2
  have hnn : ((n : Int) != (n : Int)) = false := by simp
  clear H1 H2
  go_enter Try.func17, Try.ntmps17
  go_wp2
  go_loopw [13] (fun x wr => ∃ k : Nat, x = .int .i64 (k : Int) ∧ k ≤ n ∧ Drew w wr) (fun x _ => n - (intOf x).toNat)
  case atStart => exact ⟨0, rfl, by omega, Drew.refl _⟩
  case round =>
    obtain ⟨k, rfl, hk, hd⟩ := hrel
    obtain ⟨dd, rfl⟩ := hd
    by_cases hkn : k < n
    · have hkn' : (k : Int) < (n : Int) := by omega
      have c1 := HA.out k hkn
      have c2 := HB.out k hkn
      obtain ⟨X, hX⟩ : ∃ X, X = h k := ⟨_, rfl⟩
      rw [← hX] at c1 c2
      have hxx : ((X : Int) != (X : Int)) = false := by simp
      clear hX
      go_wp2
      go_quiet (fail)
      go_wp2
      go_roundw
      case measure => simp [intOf]; omega
      case rel => exact ⟨k + 1, by go_num, by omega, Drew.is_ _ _⟩
    · have hkn' : decide ((k : Int) < (n : Int)) = false := decide_eq_false (by omega)
      go_wp2
      go_ret
      exact ⟨rfl, Drew.is_ _ _⟩
end Go.Proofs.Ytljpjjokfkbdcaa
