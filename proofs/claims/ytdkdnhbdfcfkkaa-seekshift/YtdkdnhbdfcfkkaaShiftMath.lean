/-
Plain mathematics: places behind some values more; places from behind.
-/
import Derived.Test.YtdkdnhbdfcfkkaaSeekMath
namespace Go.Proofs.Ytdkdnhbdfcfkkaa
namespace Wm
variable {α : Type} [DecidableEq α]

theorem oc_filter (f p : Nat → α) (m k : Nat) : oc f p m k = (List.range k).filter (fun x => decide (At f p m x)) := by
  induction k with
  | zero => rfl
  | succ k ih =>
    rw [oc, List.range_succ, List.filter_append, ih]
    by_cases h : At f p m k
    · rw [if_pos h]; simp [h]
    · rw [if_neg h]; simp [h]
/-- Behind A values more all stands so much later. -/
theorem oc_shift {f h p : Nat → α} {m A : Nat} : ∀ {K : Nat}, (∀ x, x < K → (At h p m (A + x) ↔ At f p m x)) → (oc h p m (A + K)).filter (fun x => decide (A ≤ x)) = (oc f p m K).map (A + ·) := by
  intro K
  induction K with
  | zero =>
    intro _
    rw [oc, List.map_nil, List.filter_eq_nil_iff]
    intro x hx
    have := (oc_mem.1 hx).1
    simp; omega
  | succ K ih =>
    intro e
    rw [show A + (K + 1) = (A + K) + 1 by omega, oc, oc]
    have ih' := ih (fun x hx => e x (by omega))
    by_cases hh : At f p m K
    · rw [if_pos hh, if_pos ((e K (by omega)).2 hh), List.filter_append, ih', List.map_append]
      simp
    · rw [if_neg hh, if_neg (fun h' => hh ((e K (by omega)).1 h')), ih']
theorem oc_before {h p : Nat → α} {m A K : Nat} (hK : K ≤ A) : (oc h p m K).filter (fun x => decide (A ≤ x)) = [] := by
  rw [List.filter_eq_nil_iff]
  intro x hx
  have := (oc_mem.1 hx).1
  simp; omega
/-- From behind there are as many. -/
theorem oc_back {f h p q : Nat → α} {m K : Nat} (e : ∀ x, x < K → (At h q m (K - 1 - x) ↔ At f p m x)) : (oc h q m K).length = (oc f p m K).length := by
  rw [oc_filter, oc_filter, ← List.countP_eq_length_filter, ← List.countP_eq_length_filter]
  have h1 : (List.range K).reverse = (List.range K).map (fun x => K - 1 - x) := by
    have := List.reverse_range' (s := 0) (n := K)
    rw [← List.range_eq_range'] at this
    rw [this]
    simp
  rw [← List.countP_reverse (l := List.range K) (p := fun x => decide (At h q m x)), h1, List.countP_map]
  apply List.countP_congr
  intro x hx
  have := List.mem_range.1 hx
  simp only [Function.comp, decide_eq_true_eq]
  exact e x this
end Wm
end Go.Proofs.Ytdkdnhbdfcfkkaa
