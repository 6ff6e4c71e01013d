
/-
The walk of quillkeep.CodeMade: it returns true for every list of numbers.
-/
import Derived.Test.YtmgkoliindicgaaCodes
import Derived.Test.YtmgkoliindicgaaEqual
namespace Go.Proofs.Ytmgkoliindicgaa
open Go.RowKit

def lens3 : List Int := [2, 1, 2]
def words3 : List ByteArray := [⟨#[49, 48]⟩, ⟨#[48]⟩, ⟨#[49, 49]⟩]
def lensG (k : Nat) : Int := lens3.getD k 0
theorem made3 : rowL (fun j => mkS (Cm.cw (Cm.ln lensG) 3 j)) 3 = rowL (fun k => words3.getD k ByteArray.empty) 3 := by decide +kernel
theorem mErr3 : mErr lensG 3 = 0 := by decide +kernel
/-- The words that are made are a good code, and none begins another one. -/
theorem made_good {g : Nat → Int} {n : Nat} (h12 : n ≤ 12) (hg : ∀ j, j < n → 1 ≤ g j ∧ g j ≤ 12) (ht : Cm.tot (Cm.ln g) n ≤ 4096) :
    Cm.Good (cws (fun j => mkS (Cm.cw (Cm.ln g) n j)) n) ∧ Cm.PF (cws (fun j => mkS (Cm.cw (Cm.ln g) n j)) n) := by
  have hl : ∀ j, j < n → Cm.ln g j ≤ 12 := fun j hj => by have := hg j hj; unfold Cm.ln; omega
  have hl1 : ∀ j, j < n → 1 ≤ Cm.ln g j := fun j hj => by have := hg j hj; unfold Cm.ln; omega
  have hw : ∀ j, wd (mkS (Cm.cw (Cm.ln g) n j)) = Cm.cw (Cm.ln g) n j := fun j => lst_mk _
  have hlen : ∀ j, (Cm.cw (Cm.ln g) n j).length = Cm.ln g j := fun j => by unfold Cm.cw; rw [Cm.bits_len]
  have hmem : ∀ x, x ∈ cws (fun j => mkS (Cm.cw (Cm.ln g) n j)) n → ∃ j, j < n ∧ x = Cm.cw (Cm.ln g) n j := by
    intro x hx
    obtain ⟨j, hj, e⟩ := mem_cws.1 hx
    exact ⟨j, hj, by rw [← e, hw]⟩
  refine ⟨⟨by rw [cws_len]; exact h12, ?_, ?_, ?_, ?_⟩, ?_⟩
  · unfold cws
    refine Cm.nodup_map' List.nodup_range fun a ha b hb e => ?_
    rw [hw, hw] at e
    by_cases hab : a = b
    · exact hab
    · exact absurd (by rw [e]; exact List.prefix_refl _) (Cm.cw_apart (List.mem_range.1 ha) (List.mem_range.1 hb) hl ht hab)
  · intro x hx e
    obtain ⟨j, hj, rfl⟩ := hmem x hx
    have := hlen j
    rw [e, List.length_nil] at this
    have := hl1 j hj
    omega
  · intro x hx
    obtain ⟨j, hj, rfl⟩ := hmem x hx
    rw [hlen]; exact hl j hj
  · intro x hx
    obtain ⟨j, hj, rfl⟩ := hmem x hx
    exact Cm.bits_are _ _
  · intro x hx y hy hp
    obtain ⟨a, ha, rfl⟩ := hmem x hx
    obtain ⟨b, hb, rfl⟩ := hmem y hy
    by_cases hab : a = b
    · rw [hab]
    · exact absurd hp (Cm.cw_apart ha hb hl ht hab)
end Go.Proofs.Ytmgkoliindicgaa
