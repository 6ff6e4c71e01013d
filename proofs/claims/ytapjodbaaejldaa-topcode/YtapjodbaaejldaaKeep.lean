
/-
The contracts of the helpers of package quillkeep: good, words, cut, Within; and of slices.Index, slices.Contains at slices of int.
-/
import Derived.Test.YtapjodbaaejldaaEqual
import Derived.Test.YtapjodbaaejldaaStr
namespace Go.Proofs.Ytapjodbaaejldaa
open Go.RowKit

theorem good1 (n : Int) (w : World) (hn : (n != 0) = false) : Calls Try.prog 67 #[.int .i64 n] w fun e w' => e = .returned (.bool false) ∧ w = w' := by
  go_enter Try.func67, Try.ntmps67
  go_wp2
  go_ret
  exact ⟨rfl, rfl⟩
theorem goodIndex (b n c : Nat) (w : World) (hn : n ≤ 100) (hc : ∀ k, k < n → w.cell? ⟨b, k, none⟩ = some (.int .i64 0)) :
    Calls Try.prog 105 #[.slice (some ⟨b, 0, none⟩) n c, .func (Fn.func 67) #[] #[]] w fun e w' => e = .returned (.int .i64 (-1)) ∧ w = w' := by
  have HC := hid hc
  clear hc
  go_enter Try.func105, Try.ntmps105
  go_wp2
  go_loop [8] (fun i => ∃ k : Nat, k ≤ n ∧ i = .int .i64 k) (fun i => n - (intOf i).toNat)
  case atStart => exact ⟨0, Nat.zero_le _, rfl⟩
  case round =>
    obtain ⟨k, hk, rfl⟩ := hrel
    by_cases hlt : k < n
    · have hc := HC.out k hlt
      go_wp2_with fail
      with_reducible refine (good1 0 _ (by decide)).mono ?_
      rintro e w1 ⟨rfl, rfl⟩
      go_wp2
      go_round
      case rel => exact ⟨k + 1, by omega, by go_num⟩
      case measure => simp [intOf]; omega
    · go_wp2
      go_ret
      exact ⟨rfl, rfl⟩
theorem goodHas (b n c : Nat) (w : World) (hn : n ≤ 100) (hc : ∀ k, k < n → w.cell? ⟨b, k, none⟩ = some (.int .i64 0)) :
    Calls Try.prog 66 #[.slice (some ⟨b, 0, none⟩) n c, .func (Fn.func 67) #[] #[]] w fun e w' => e = .returned (.bool false) ∧ w = w' := by
  have HC := hid hc
  clear hc
  go_enter Try.func66, Try.ntmps66
  go_wp2_with fail
  with_reducible refine (goodIndex b n c _ hn HC.out).mono ?_
  rintro e w1 ⟨rfl, rfl⟩
  go_wp2
  go_ret
  exact ⟨rfl, rfl⟩
theorem good_ok (b n c : Nat) (w : World) (hn : n ≤ 100) (hc : ∀ k, k < n → w.cell? ⟨b, k, none⟩ = some (.int .i64 0)) :
    Calls Try.prog 29 #[.slice (some ⟨b, 0, none⟩) n c] w fun e w' => e = .returned (.bool true) ∧ w = w' := by
  have HC := hid hc
  clear hc
  go_enter Try.func29, Try.ntmps29
  go_wp2_with fail
  with_reducible refine (goodHas b n c _ hn HC.out).mono ?_
  rintro e w1 ⟨rfl, rfl⟩
  go_wp2
  go_ret
  exact ⟨rfl, rfl⟩
theorem two_zeros (w : World) (t : TypeId) : ∀ k, k < 2 → (w.alloc (.cells #[.int .i64 0, .int .i64 0] t)).cell? ⟨w.heap.size, k, none⟩ = some (.int .i64 0) := by
  intro k hk
  match k, hk with
  | 0, _ => simp
  | 1, _ => simp

/-- Where v stands in the row first; -1: nowhere. -/
theorem index_no {A : Option Addr} {n c : Nat} {g : Nat → Int} {w : World} {v : Int} (h : IRow w A n g) (hn : n ≤ maxLen) (hv : ∀ k, k < n → g k ≠ v) :
    Calls Try.prog 35 #[.slice A n c, .int .i64 v] w fun e w' => e = .returned (.int .i64 (-1)) ∧ w = w' := by
  unfold maxLen at hn
  have H := hid h
  have HV := hid hv
  clear h hv
  go_enter Try.func35, Try.ntmps35
  go_wp2
  go_loop [8] (fun i => ∃ k : Nat, k ≤ n ∧ i = .int .i64 k) (fun i => n - (intOf i).toNat)
  case atStart => exact ⟨0, Nat.zero_le _, rfl⟩
  case round =>
    obtain ⟨k, hk, rfl⟩ := hrel
    by_cases hlt : k < n
    · obtain ⟨b, o, rfl, _, hc⟩ := H.out.at_ hlt
      have he : (v == g k) = false := by rw [beq_eq_false_iff_ne]; exact fun e => HV.out k hlt e.symm
      go_wp2
      go_round
      case rel => exact ⟨k + 1, by omega, by go_num⟩
      case measure => simp [intOf]; omega
    · go_wp2
      go_ret
      exact ⟨rfl, rfl⟩
theorem index_yes {A : Option Addr} {n c : Nat} {g : Nat → Int} {w : World} {v : Int} {j : Nat} (h : IRow w A n g) (hn : n ≤ maxLen) (hj : j < n) (hv : g j = v) (hf : ∀ k, k < j → g k ≠ v) :
    Calls Try.prog 35 #[.slice A n c, .int .i64 v] w fun e w' => e = .returned (.int .i64 j) ∧ w = w' := by
  unfold maxLen at hn
  have H := hid h
  have HV := hid hv
  have HF := hid hf
  clear h hv hf
  go_enter Try.func35, Try.ntmps35
  go_wp2
  go_loop [8] (fun i => ∃ k : Nat, k ≤ j ∧ i = .int .i64 k) (fun i => n - (intOf i).toNat)
  case atStart => exact ⟨0, Nat.zero_le _, rfl⟩
  case round =>
    obtain ⟨k, hk, rfl⟩ := hrel
    obtain ⟨b, o, rfl, _, hc⟩ := H.out.at_ (k := k) (by omega)
    by_cases hlt : k < j
    · have he : (v == g k) = false := by rw [beq_eq_false_iff_ne]; exact fun e => HF.out k hlt e.symm
      go_wp2
      go_round
      case rel => exact ⟨k + 1, by omega, by go_num⟩
      case measure => simp [intOf]; omega
    · obtain rfl : k = j := by omega
      have he : (v == g k) = true := by rw [beq_iff_eq]; exact HV.out.symm
      go_wp2
      go_ret
      exact ⟨rfl, rfl⟩
theorem first_of {n : Nat} {g : Nat → Int} {v : Int} : ∀ m, (∃ k, k < m ∧ m ≤ n ∧ g k = v) → ∃ j, j < n ∧ g j = v ∧ ∀ k, k < j → g k ≠ v := by
  intro m
  induction m with
  | zero => rintro ⟨k, hk, _⟩; omega
  | succ m ih =>
    rintro ⟨k, hk, hm, hg⟩
    by_cases h : ∃ k, k < m ∧ g k = v
    · obtain ⟨k', h1, h2⟩ := h
      exact ih ⟨k', h1, by omega, h2⟩
    · have hkm : k = m := by
        rcases Nat.lt_or_ge k m with hlt | hge
        · exact absurd ⟨k, hlt, hg⟩ h
        · omega
      subst hkm
      exact ⟨k, by omega, hg, fun k' h1 h2 => h ⟨k', h1, h2⟩⟩
theorem rest_mod (k : Int) (n : Nat) (hn : 0 < n) : (k.tmod n < 0 ∧ k.tmod n + n = k % n ∧ -(n : Int) < k.tmod n) ∨ (¬ k.tmod n < 0 ∧ k.tmod n = k % n) := by
  have h1 := Int.tmod_eq_emod (a := k) (b := n)
  have h2 := Int.emod_nonneg k (show (n : Int) ≠ 0 by omega)
  have h3 := Int.emod_lt_of_pos k (show (0 : Int) < n by omega)
  split at h1
  · right; omega
  · left; simp at h1; omega
theorem rest_any (k : Int) (n : Nat) (w : World) (hn : 0 < n) (hn2 : n ≤ 4611686018427387904) :
    Calls Try.prog 68 #[.int .i64 k, .int .i64 n] w fun e w' => e = .returned (.int .i64 (k % n)) ∧ w = w' := by
  have hz : ¬ n = 0 := by omega
  rcases rest_mod k n hn with ⟨h1, h2, h3⟩ | ⟨h1, h2⟩
  · have H2 := hid h2
    clear h2
    go_enter Try.func68, Try.ntmps68
    go_wp2
    go_ret
    exact ⟨ret_int H2.out, rfl⟩
  · have H2 := hid h2
    clear h2
    go_enter Try.func68, Try.ntmps68
    go_wp2
    go_ret
    exact ⟨ret_int H2.out, rfl⟩
theorem within_any (k : Int) (n : Nat) (w : World) (hn : 0 < n) (hn2 : n ≤ 4611686018427387904) :
    Calls Try.prog 31 #[.int .i64 k, .int .i64 n] w fun e w' => e = .returned (.int .i64 ((k % n).toNat : Int)) ∧ w = w' := by
  have h2 := Int.emod_nonneg k (show (n : Int) ≠ 0 by omega)
  obtain ⟨r, hr⟩ := Int.eq_ofNat_of_zero_le h2
  rw [hr, Int.toNat_natCast]
  have HR := hid hr
  clear hr h2
  go_enter Try.func31, Try.ntmps31
  go_wp2_with fail
  with_reducible refine (rest_any k n _ hn hn2).mono ?_
  rw [HR.out]
  rintro e w1 ⟨rfl, rfl⟩
  go_wp2
  go_ret
  exact ⟨rfl, rfl⟩
end Go.Proofs.Ytapjodbaaejldaa
