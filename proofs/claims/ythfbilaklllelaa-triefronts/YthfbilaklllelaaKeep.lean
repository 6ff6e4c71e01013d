/-
The contracts of the helpers of package quillkeep: good, words, cut, Within; and of slices.Index, slices.Contains at slices of int.
-/
import Derived.Test.YthfbilaklllelaaEqual
import Derived.Test.YthfbilaklllelaaStr
namespace Go.Proofs.Ythfbilaklllelaa
open Go.RowKit

/-- Where v stands in the row first; -1: nowhere. -/
theorem index_no {A : Option Addr} {n c : Nat} {g : Nat → Int} {w : World} {v : Int} (h : IRow w A n g) (hn : n ≤ maxLen) (hv : ∀ k, k < n → g k ≠ v) :
    Calls Try.prog 45 #[.slice A n c, .int .i64 v] w fun e w' => e = .returned (.int .i64 (-1)) ∧ w = w' := by
  unfold maxLen at hn
  have H := hid h
  have HV := hid hv
  clear h hv
  go_enter Try.func45, Try.ntmps45
  go_wp2
  go_loop [8] (fun i => ∃ k : Nat, k ≤ n ∧ i = .int .i64 k) (fun i => n - (intOf i).toNat)
  case atStart => exact ⟨0, Nat.zero_le _, rfl⟩
  case round =>
    obtain ⟨k, hk, rfl⟩ := hrel
    by_cases hlt : k < n
    · obtain ⟨b, o, rfl, _, hc⟩ := H.out.at_ hlt
      have he : (v == g k) = false := by rw [beq_eq_false_iff_ne]; exact fun e => HV.out k hlt e.symm
      go_wp2
      go_round
      case rel => exact ⟨k + 1, by omega, by go_num⟩
      case measure => simp [intOf]; omega
    · go_wp2
      go_ret
      exact ⟨rfl, rfl⟩
theorem index_yes {A : Option Addr} {n c : Nat} {g : Nat → Int} {w : World} {v : Int} {j : Nat} (h : IRow w A n g) (hn : n ≤ maxLen) (hj : j < n) (hv : g j = v) (hf : ∀ k, k < j → g k ≠ v) :
    Calls Try.prog 45 #[.slice A n c, .int .i64 v] w fun e w' => e = .returned (.int .i64 j) ∧ w = w' := by
  unfold maxLen at hn
  have H := hid h
  have HV := hid hv
  have HF := hid hf
  clear h hv hf
  go_enter Try.func45, Try.ntmps45
  go_wp2
  go_loop [8] (fun i => ∃ k : Nat, k ≤ j ∧ i = .int .i64 k) (fun i => n - (intOf i).toNat)
  case atStart => exact ⟨0, Nat.zero_le _, rfl⟩
  case round =>
    obtain ⟨k, hk, rfl⟩ := hrel
    obtain ⟨b, o, rfl, _, hc⟩ := H.out.at_ (k := k) (by omega)
    by_cases hlt : k < j
    · have he : (v == g k) = false := by rw [beq_eq_false_iff_ne]; exact fun e => HF.out k hlt e.symm
      go_wp2
      go_round
      case rel => exact ⟨k + 1, by omega, by go_num⟩
      case measure => simp [intOf]; omega
    · obtain rfl : k = j := by omega
      have he : (v == g k) = true := by rw [beq_iff_eq]; exact HV.out.symm
      go_wp2
      go_ret
      exact ⟨rfl, rfl⟩
theorem first_of {n : Nat} {g : Nat → Int} {v : Int} : ∀ m, (∃ k, k < m ∧ m ≤ n ∧ g k = v) → ∃ j, j < n ∧ g j = v ∧ ∀ k, k < j → g k ≠ v := by
  intro m
  induction m with
  | zero => rintro ⟨k, hk, _⟩; omega
  | succ m ih =>
    rintro ⟨k, hk, hm, hg⟩
    by_cases h : ∃ k, k < m ∧ g k = v
    · obtain ⟨k', h1, h2⟩ := h
      exact ih ⟨k', h1, by omega, h2⟩
    · have hkm : k = m := by
        rcases Nat.lt_or_ge k m with hlt | hge
        · exact absurd ⟨k, hlt, hg⟩ h
        · omega
      subst hkm
      exact ⟨k, by omega, hg, fun k' h1 h2 => h ⟨k', h1, h2⟩⟩
theorem contains_no {A : Option Addr} {n c : Nat} {g : Nat → Int} {w : World} {v : Int} (h : IRow w A n g) (hn : n ≤ maxLen) (hv : ∀ k, k < n → g k ≠ v) :
    Calls Try.prog 28 #[.slice A n c, .int .i64 v] w fun e w' => e = .returned (.bool false) ∧ w = w' := by
  have H := hid h
  have HV := hid hv
  clear h hv
  go_enter Try.func28, Try.ntmps28
  go_wp2_with fail
  with_reducible refine (index_no H.out hn HV.out).mono ?_
  rintro e w1 ⟨rfl, rfl⟩
  go_wp2
  go_ret
  exact ⟨rfl, rfl⟩
theorem contains_yes {A : Option Addr} {n c : Nat} {g : Nat → Int} {w : World} {v : Int} (h : IRow w A n g) (hn : n ≤ maxLen) (hv : ∃ k, k < n ∧ g k = v) :
    Calls Try.prog 28 #[.slice A n c, .int .i64 v] w fun e w' => e = .returned (.bool true) ∧ w = w' := by
  obtain ⟨j, hj, hg, hf⟩ := first_of (n := n) (g := g) (v := v) n (by obtain ⟨k, h1, h2⟩ := hv; exact ⟨k, h1, Nat.le_refl _, h2⟩)
  have H := hid h
  have HG := hid hg
  have HF := hid hf
  clear h hv hg hf
  go_enter Try.func28, Try.ntmps28
  go_wp2_with fail
  with_reducible refine (index_yes H.out hn hj HG.out HF.out).mono ?_
  rintro e w1 ⟨rfl, rfl⟩
  go_wp2
  go_ret
  exact ⟨rfl, rfl⟩

end Go.Proofs.Ythfbilaklllelaa
