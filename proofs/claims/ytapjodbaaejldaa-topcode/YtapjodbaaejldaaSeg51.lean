/-
Several texts of this proof, one behind the other.
-/
import Derived.Test.YtapjodbaaejldaaCodeF
import Derived.Test.YtapjodbaaejldaaSeg49
import Derived.Test.YtapjodbaaejldaaKeep
import Derived.Test.YtapjodbaaejldaaEqual

/-
The contracts of package code's public functions.
-/
namespace Go.Proofs.Ytapjodbaaejldaa
open Go.RowKit
theorem CCheck_any {A : Option Addr} {n c : Nat} {g : Nat → ByteArray} (w : World) (h : SRow w A n g) (hc : n ≤ c) (_ : n ≤ maxLen) :
    Calls Try.prog 76 #[.slice A n c] w fun e w' => e = .returned (.int .i64 (Cm.cErr (cws g n))) ∧ Below w.heap.size w w' := by
  refine (check_any w h hc).mono ?_
  rintro e w1 ⟨rfl, rfl⟩
  exact ⟨rfl, Below.refl _ _⟩
theorem Front_any {A : Option Addr} {n c : Nat} {g : Nat → ByteArray} (w : World) (h : SRow w A n g) (hc : n ≤ c) (_ : n ≤ maxLen) :
    Calls Try.prog 77 #[.slice A n c] w (AskPost Cm.PF (cws g n) w) := Front_all w h hc
theorem Sum_any {A : Option Addr} {n c : Nat} {g : Nat → Int} (w : World) (h : IRow w A n g) (_ : n ≤ c) (_ : n ≤ maxLen) :
    Calls Try.prog 110 #[.slice A n c] w fun e w' => e = .returned (.tuple #[.int .i64 (lSum g n), .int .i64 (Cm.lErr g n)]) ∧ Below w.heap.size w w' := by
  refine (sum_any w h).mono ?_
  rintro e w1 ⟨rfl, rfl⟩
  exact ⟨rfl, Below.refl _ _⟩
theorem Make_any {A : Option Addr} {n c : Nat} {g : Nat → Int} (w : World) (h : IRow w A n g) (_ : n ≤ c) (_ : n ≤ maxLen) :
    Calls Try.prog 75 #[.slice A n c] w (MakePost g n w) := make_any w h
end Go.Proofs.Ytapjodbaaejldaa


/-
The contracts of quillkeep.codes and quillkeep.lensOf.
-/
namespace Go.Proofs.Ytapjodbaaejldaa
open Go.RowKit

theorem zeros3 (w : World) (t : TypeId) : ∀ k, k < 3 → (w.alloc (.cells #[.int .i64 0, .int .i64 0, .int .i64 0] t)).cell? ⟨w.heap.size, k, none⟩ = some (.int .i64 0) := by
  intro k hk
  match k, hk with
  | 0, _ => simp
  | 1, _ => simp
  | 2, _ => simp
end Go.Proofs.Ytapjodbaaejldaa


/-
The walk of quillkeep.CodeMade: it returns true for every list of numbers.
-/
namespace Go.Proofs.Ytapjodbaaejldaa
open Go.RowKit

def lens3 : List Int := [2, 1, 2]
def words3 : List ByteArray := [⟨#[49, 48]⟩, ⟨#[48]⟩, ⟨#[49, 49]⟩]
def lensG (k : Nat) : Int := lens3.getD k 0
theorem made3 : rowL (fun j => mkS (Cm.cw (Cm.ln lensG) 3 j)) 3 = rowL (fun k => words3.getD k ByteArray.empty) 3 := by decide +kernel
theorem mErr3 : mErr lensG 3 = 0 := by decide +kernel
/-- The words that are made are a good code, and none begins another one. -/
theorem made_good {g : Nat → Int} {n : Nat} (h12 : n ≤ 12) (hg : ∀ j, j < n → 1 ≤ g j ∧ g j ≤ 12) (ht : Cm.tot (Cm.ln g) n ≤ 4096) :
    Cm.Good (cws (fun j => mkS (Cm.cw (Cm.ln g) n j)) n) ∧ Cm.PF (cws (fun j => mkS (Cm.cw (Cm.ln g) n j)) n) := by
  have hl : ∀ j, j < n → Cm.ln g j ≤ 12 := fun j hj => by have := hg j hj; unfold Cm.ln; omega
  have hl1 : ∀ j, j < n → 1 ≤ Cm.ln g j := fun j hj => by have := hg j hj; unfold Cm.ln; omega
  have hw : ∀ j, wd (mkS (Cm.cw (Cm.ln g) n j)) = Cm.cw (Cm.ln g) n j := fun j => lst_mk _
  have hlen : ∀ j, (Cm.cw (Cm.ln g) n j).length = Cm.ln g j := fun j => by unfold Cm.cw; rw [Cm.bits_len]
  have hmem : ∀ x, x ∈ cws (fun j => mkS (Cm.cw (Cm.ln g) n j)) n → ∃ j, j < n ∧ x = Cm.cw (Cm.ln g) n j := by
    intro x hx
    obtain ⟨j, hj, e⟩ := mem_cws.1 hx
    exact ⟨j, hj, by rw [← e, hw]⟩
  refine ⟨⟨by rw [cws_len]; exact h12, ?_, ?_, ?_, ?_⟩, ?_⟩
  · unfold cws
    refine Cm.nodup_map' List.nodup_range fun a ha b hb e => ?_
    rw [hw, hw] at e
    by_cases hab : a = b
    · exact hab
    · exact absurd (by rw [e]; exact List.prefix_refl _) (Cm.cw_apart (List.mem_range.1 ha) (List.mem_range.1 hb) hl ht hab)
  · intro x hx e
    obtain ⟨j, hj, rfl⟩ := hmem x hx
    have := hlen j
    rw [e, List.length_nil] at this
    have := hl1 j hj
    omega
  · intro x hx
    obtain ⟨j, hj, rfl⟩ := hmem x hx
    rw [hlen]; exact hl j hj
  · intro x hx
    obtain ⟨j, hj, rfl⟩ := hmem x hx
    exact Cm.bits_are _ _
  · intro x hx y hy hp
    obtain ⟨a, ha, rfl⟩ := hmem x hx
    obtain ⟨b, hb, rfl⟩ := hmem y hy
    by_cases hab : a = b
    · rw [hab]
    · exact absurd hp (Cm.cw_apart ha hb hl ht hab)
end Go.Proofs.Ytapjodbaaejldaa

