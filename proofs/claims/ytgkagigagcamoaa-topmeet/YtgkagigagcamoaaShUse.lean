
/-
Small facts about rows of ops.
-/
import Derived.Test.YtgkagigagcamoaaSeg38
import Derived.Test.YtgkagigagcamoaaOpEqual
namespace Go.Proofs.Ytgkagigagcamoaa
open Go.RowKit

theorem eqO_same {n : Nat} {f g : Nat → Sh.Op} (h : ∀ k, k < n → f k = g k) : eqO n n f g = true := eqO_true.2 ⟨rfl, h⟩
theorem row_small {L : List Sh.Op} : ∀ {n : Int}, Sh.RowOk n L → ∀ x, x ∈ L → -1000 ≤ x.a ∧ x.a ≤ 1000 := by
  induction L with
  | nil => intro n _ x hx; simp at hx
  | cons y L ih =>
    intro n h x hx
    rw [List.mem_cons] at hx
    rcases hx with rfl | hx
    · have := op_small h.1
      omega
    · exact ih h.2 x hx
theorem ol_in {h : Nat → Sh.Op} {n k : Nat} (hk : k < n) : h k ∈ ol h n := by
  unfold ol
  exact List.mem_map.2 ⟨k, List.mem_range.2 hk, rfl⟩
theorem OpRow.nil_len {w : World} {A : Option Addr} {n : Nat} {g : Nat → Sh.Op} (h : OpRow w A n g) (hA : A = none) : n = 0 := by
  by_cases h0 : n = 0
  · exact h0
  · obtain ⟨b, o, e, _⟩ := h 0 (by omega)
    rw [hA] at e
    exact absurd e (by simp)
theorem OwnO.readAt {w : World} {base : Nat} {C : Option Addr} {c : Nat} {u : List Sh.Op} (h : OwnO w base (.slice C u.length c) u) : OpRow w C u.length (fun k => u.getD k Sh.zero) := by
  obtain ⟨A', c', e, _, hr⟩ := h.row
  injection e with e1 e2 e3
  subst e1
  exact hr
end Go.Proofs.Ytgkagigagcamoaa
