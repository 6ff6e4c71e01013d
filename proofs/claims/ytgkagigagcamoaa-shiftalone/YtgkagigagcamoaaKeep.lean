
/-
The contracts of the helpers of package quillkeep: good, words, cut, Within; and of slices.Index, slices.Contains at slices of int.
-/
import Derived.Test.YtgkagigagcamoaaEqual
import Derived.Test.YtgkagigagcamoaaStr
namespace Go.Proofs.Ytgkagigagcamoaa
open Go.RowKit

theorem good1 (n : Int) (w : World) (hn : (n != 0) = false) : Calls Try.prog 43 #[.int .i64 n] w fun e w' => e = .returned (.bool false) ∧ w = w' := by
  go_enter Try.func43, Try.ntmps43
  go_wp2
  go_ret
  exact ⟨rfl, rfl⟩
theorem goodIndex (b n c : Nat) (w : World) (hn : n ≤ 100) (hc : ∀ k, k < n → w.cell? ⟨b, k, none⟩ = some (.int .i64 0)) :
    Calls Try.prog 59 #[.slice (some ⟨b, 0, none⟩) n c, .func (Fn.func 43) #[] #[]] w fun e w' => e = .returned (.int .i64 (-1)) ∧ w = w' := by
  have HC := hid hc
  clear hc
  go_enter Try.func59, Try.ntmps59
  go_wp2
  go_loop [8] (fun i => ∃ k : Nat, k ≤ n ∧ i = .int .i64 k) (fun i => n - (intOf i).toNat)
  case atStart => exact ⟨0, Nat.zero_le _, rfl⟩
  case round =>
    obtain ⟨k, hk, rfl⟩ := hrel
    by_cases hlt : k < n
    · have hc := HC.out k hlt
      go_wp2_with fail
      with_reducible refine (good1 0 _ (by decide)).mono ?_
      rintro e w1 ⟨rfl, rfl⟩
      go_wp2
      go_round
      case rel => exact ⟨k + 1, by omega, by go_num⟩
      case measure => simp [intOf]; omega
    · go_wp2
      go_ret
      exact ⟨rfl, rfl⟩
theorem goodHas (b n c : Nat) (w : World) (hn : n ≤ 100) (hc : ∀ k, k < n → w.cell? ⟨b, k, none⟩ = some (.int .i64 0)) :
    Calls Try.prog 42 #[.slice (some ⟨b, 0, none⟩) n c, .func (Fn.func 43) #[] #[]] w fun e w' => e = .returned (.bool false) ∧ w = w' := by
  have HC := hid hc
  clear hc
  go_enter Try.func42, Try.ntmps42
  go_wp2_with fail
  with_reducible refine (goodIndex b n c _ hn HC.out).mono ?_
  rintro e w1 ⟨rfl, rfl⟩
  go_wp2
  go_ret
  exact ⟨rfl, rfl⟩
theorem good_ok (b n c : Nat) (w : World) (hn : n ≤ 100) (hc : ∀ k, k < n → w.cell? ⟨b, k, none⟩ = some (.int .i64 0)) :
    Calls Try.prog 22 #[.slice (some ⟨b, 0, none⟩) n c] w fun e w' => e = .returned (.bool true) ∧ w = w' := by
  have HC := hid hc
  clear hc
  go_enter Try.func22, Try.ntmps22
  go_wp2_with fail
  with_reducible refine (goodHas b n c _ hn HC.out).mono ?_
  rintro e w1 ⟨rfl, rfl⟩
  go_wp2
  go_ret
  exact ⟨rfl, rfl⟩
theorem two_zeros (w : World) (t : TypeId) : ∀ k, k < 2 → (w.alloc (.cells #[.int .i64 0, .int .i64 0] t)).cell? ⟨w.heap.size, k, none⟩ = some (.int .i64 0) := by
  intro k hk
  match k, hk with
  | 0, _ => simp
  | 1, _ => simp

/-- The first n bytes of s, or all. -/
def cutS (s : ByteArray) (n : Nat) : ByteArray := if s.size ≤ n then s else s.extract 0 n
theorem cutS_size (s : ByteArray) (n : Nat) : (cutS s n).size ≤ n ∧ (cutS s n).size ≤ s.size := by
  unfold cutS
  split
  · exact ⟨by assumption, Nat.le_refl _⟩
  · rw [size_ext]; omega
theorem cut_any (s : ByteArray) (n : Nat) (w : World) (hn : n ≤ maxLen) :
    Calls Try.prog 21 #[.string s, .int .i64 n] w fun e w' => e = .returned (.string (cutS s n)) ∧ w = w' := by
  unfold maxLen at hn
  unfold cutS
  by_cases h : s.size ≤ n
  · rw [if_pos h]
    go_enter Try.func21, Try.ntmps21
    go_wp2
    go_ret
    exact ⟨rfl, rfl⟩
  · rw [if_neg h]
    go_enter Try.func21, Try.ntmps21
    go_wp2
    go_ret
    exact ⟨rfl, rfl⟩

theorem rest_mod (k : Int) (n : Nat) (hn : 0 < n) : (k.tmod n < 0 ∧ k.tmod n + n = k % n ∧ -(n : Int) < k.tmod n) ∨ (¬ k.tmod n < 0 ∧ k.tmod n = k % n) := by
  have h1 := Int.tmod_eq_emod (a := k) (b := n)
  have h2 := Int.emod_nonneg k (show (n : Int) ≠ 0 by omega)
  have h3 := Int.emod_lt_of_pos k (show (0 : Int) < n by omega)
  split at h1
  · right; omega
  · left; simp at h1; omega
theorem rest_any (k : Int) (n : Nat) (w : World) (hn : 0 < n) (hn2 : n ≤ 4611686018427387904) :
    Calls Try.prog 44 #[.int .i64 k, .int .i64 n] w fun e w' => e = .returned (.int .i64 (k % n)) ∧ w = w' := by
  have hz : ¬ n = 0 := by omega
  rcases rest_mod k n hn with ⟨h1, h2, h3⟩ | ⟨h1, h2⟩
  · have H2 := hid h2
    clear h2
    go_enter Try.func44, Try.ntmps44
    go_wp2
    go_ret
    exact ⟨ret_int H2.out, rfl⟩
  · have H2 := hid h2
    clear h2
    go_enter Try.func44, Try.ntmps44
    go_wp2
    go_ret
    exact ⟨ret_int H2.out, rfl⟩
theorem within_any (k : Int) (n : Nat) (w : World) (hn : 0 < n) (hn2 : n ≤ 4611686018427387904) :
    Calls Try.prog 24 #[.int .i64 k, .int .i64 n] w fun e w' => e = .returned (.int .i64 ((k % n).toNat : Int)) ∧ w = w' := by
  have h2 := Int.emod_nonneg k (show (n : Int) ≠ 0 by omega)
  obtain ⟨r, hr⟩ := Int.eq_ofNat_of_zero_le h2
  rw [hr, Int.toNat_natCast]
  have HR := hid hr
  clear hr h2
  go_enter Try.func24, Try.ntmps24
  go_wp2_with fail
  with_reducible refine (rest_any k n _ hn hn2).mono ?_
  rw [HR.out]
  rintro e w1 ⟨rfl, rfl⟩
  go_wp2
  go_ret
  exact ⟨rfl, rfl⟩
end Go.Proofs.Ytgkagigagcamoaa
