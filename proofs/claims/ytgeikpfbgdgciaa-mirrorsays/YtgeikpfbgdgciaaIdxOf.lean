/-
Where a word stands first in another one, by the library's Index and Contains.
-/
import Derived.Test.YtgeikpfbgdgciaaShared
import Derived.Test.YtgeikpfbgdgciaaShelfM
namespace Go.Proofs.Ytgeikpfbgdgciaa
open Go.RowKit

theorem occ_iff {s t : List UInt8} {i : Nat} : Lib.occAt s t i = true ↔ t <+: s.drop i := by unfold Lib.occAt; exact List.isPrefixOf_iff_prefix
/-- Where a word stands first. -/
theorem index_at {s t : List UInt8} : ∀ p, p ≤ s.length → t <+: s.drop p → ∃ a : Nat, Lib.index s t = (a : Int) ∧ a ≤ p ∧ t <+: s.drop a ∧ ∀ j, j < a → ¬ t <+: s.drop j := by
  intro p
  induction p using Nat.strongRecOn with
  | _ p ih =>
    intro hp h
    by_cases hx : ∃ q, q < p ∧ t <+: s.drop q
    · obtain ⟨q, h1, h2⟩ := hx
      obtain ⟨a, h3, h4, h5⟩ := ih q h1 (by omega) h2
      exact ⟨a, h3, by omega, h5⟩
    · refine ⟨p, Lib.index_first hp (occ_iff.2 h) fun j hj => ?_, Nat.le_refl _, h, fun j hj hq => hx ⟨j, hj, hq⟩⟩
      rw [← Bool.not_eq_true, occ_iff]
      exact fun hq => hx ⟨j, hj, hq⟩
theorem contains_at {s t : List UInt8} {p : Nat} (hp : p ≤ s.length) (h : t <+: s.drop p) : Lib.contains s t = true := by
  obtain ⟨a, h1, _⟩ := index_at p hp h
  unfold Lib.contains
  rw [h1]
  exact decide_eq_true (by omega)
end Go.Proofs.Ytgeikpfbgdgciaa
