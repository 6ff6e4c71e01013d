
/-
The contracts of the helpers of package quillkeep: good, words, cut, Within; and of slices.Index, slices.Contains at slices of int.
-/
import Derived.Test.YtphbloibldljjaaEqual
import Derived.Test.YtphbloibldljjaaStr
namespace Go.Proofs.Ytphbloibldljjaa
open Go.RowKit

theorem good1 (n : Int) (w : World) (hn : (n != 0) = false) : Calls Try.prog 37 #[.int .i64 n] w fun e w' => e = .returned (.bool false) ∧ w = w' := by
  go_enter Try.func37, Try.ntmps37
  go_wp2
  go_ret
  exact ⟨rfl, rfl⟩
theorem goodIndex (b n c : Nat) (w : World) (hn : n ≤ 100) (hc : ∀ k, k < n → w.cell? ⟨b, k, none⟩ = some (.int .i64 0)) :
    Calls Try.prog 47 #[.slice (some ⟨b, 0, none⟩) n c, .func (Fn.func 37) #[] #[]] w fun e w' => e = .returned (.int .i64 (-1)) ∧ w = w' := by
  have HC := hid hc
  clear hc
  go_enter Try.func47, Try.ntmps47
  go_wp2
  go_loop [8] (fun i => ∃ k : Nat, k ≤ n ∧ i = .int .i64 k) (fun i => n - (intOf i).toNat)
  case atStart => exact ⟨0, Nat.zero_le _, rfl⟩
  case round =>
    obtain ⟨k, hk, rfl⟩ := hrel
    by_cases hlt : k < n
    · have hc := HC.out k hlt
      go_wp2_with fail
      with_reducible refine (good1 0 _ (by decide)).mono ?_
      rintro e w1 ⟨rfl, rfl⟩
      go_wp2
      go_round
      case rel => exact ⟨k + 1, by omega, by go_num⟩
      case measure => simp [intOf]; omega
    · go_wp2
      go_ret
      exact ⟨rfl, rfl⟩
theorem goodHas (b n c : Nat) (w : World) (hn : n ≤ 100) (hc : ∀ k, k < n → w.cell? ⟨b, k, none⟩ = some (.int .i64 0)) :
    Calls Try.prog 36 #[.slice (some ⟨b, 0, none⟩) n c, .func (Fn.func 37) #[] #[]] w fun e w' => e = .returned (.bool false) ∧ w = w' := by
  have HC := hid hc
  clear hc
  go_enter Try.func36, Try.ntmps36
  go_wp2_with fail
  with_reducible refine (goodIndex b n c _ hn HC.out).mono ?_
  rintro e w1 ⟨rfl, rfl⟩
  go_wp2
  go_ret
  exact ⟨rfl, rfl⟩
theorem good_ok (b n c : Nat) (w : World) (hn : n ≤ 100) (hc : ∀ k, k < n → w.cell? ⟨b, k, none⟩ = some (.int .i64 0)) :
    Calls Try.prog 17 #[.slice (some ⟨b, 0, none⟩) n c] w fun e w' => e = .returned (.bool true) ∧ w = w' := by
  have HC := hid hc
  clear hc
  go_enter Try.func17, Try.ntmps17
  go_wp2_with fail
  with_reducible refine (goodHas b n c _ hn HC.out).mono ?_
  rintro e w1 ⟨rfl, rfl⟩
  go_wp2
  go_ret
  exact ⟨rfl, rfl⟩
theorem two_zeros (w : World) (t : TypeId) : ∀ k, k < 2 → (w.alloc (.cells #[.int .i64 0, .int .i64 0] t)).cell? ⟨w.heap.size, k, none⟩ = some (.int .i64 0) := by
  intro k hk
  match k, hk with
  | 0, _ => simp
  | 1, _ => simp

end Go.Proofs.Ytphbloibldljjaa
