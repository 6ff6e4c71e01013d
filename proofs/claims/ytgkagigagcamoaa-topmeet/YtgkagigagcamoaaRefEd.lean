
/-
The contracts of quillref.Grows, EditsErr, Done, PlaceOf.
-/
import Derived.Test.YtgkagigagcamoaaEvRow
import Derived.Deep.RegionHeld3
namespace Go.Proofs.Ytgkagigagcamoaa
open Go.RowKit

theorem gro_succ (h : Nat → Es.Ev) (k : Nat) : Es.gro (el h (k + 1)) = Es.gro (el h k) + (((h k).s.size : Int) - (h k).d) := by
  rw [el_succ, Es.gro_app]
  simp only [Es.gro]
  omega
/-- A bound for what edits that are not too great add. -/
theorem gro_small {h : Nat → Es.Ev} {n : Nat} (hw : ∀ k, k < n → -1000000 ≤ ((h k).s.size : Int) - (h k).d ∧ ((h k).s.size : Int) - (h k).d ≤ 1000000) : ∀ k, k ≤ n → -(1000000 * (k : Int)) ≤ Es.gro (el h k) ∧ Es.gro (el h k) ≤ 1000000 * (k : Int) := by
  intro k
  induction k with
  | zero => intro _; exact ⟨by show (_ : Int) ≤ 0; simp, by show (0 : Int) ≤ _; simp⟩
  | succ k ih =>
    intro hk
    have := ih (by omega)
    have h2 := hw k (by omega)
    rw [gro_succ]
    omega
/-- Where the edit ahead of the k-th ends. -/
def pe (h : Nat → Es.Ev) (k : Nat) : Int := if k = 0 then -1 else (h (k - 1)).a + (h (k - 1)).d
theorem pe_succ (h : Nat → Es.Ev) (k : Nat) : pe h (k + 1) = (h k).a + (h k).d := by unfold pe; rw [if_neg (by omega), Nat.add_sub_cancel]
/-- An edit that is in its bounds. -/
def Inb (N : Int) (x : Es.Ev) : Prop := 0 ≤ x.a ∧ x.a ≤ N ∧ 0 ≤ x.d ∧ x.d ≤ N ∧ x.a + x.d ≤ N ∧ x.s.size ≤ 40
end Go.Proofs.Ytgkagigagcamoaa
