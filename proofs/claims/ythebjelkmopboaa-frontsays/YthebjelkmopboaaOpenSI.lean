
/-
A list of numbers that came in, read.
-/
import Derived.Test.YthebjelkmopboaaBase
import Derived.ProofKit
import Derived.ChangeSlices
import Derived.SizedLaws
namespace Go.Proofs.Ythebjelkmopboaa
open Go.ChangeShapes Go.WideShapes Go.ChangeAt Go.RowKit

theorem Try.cellsInt : Try.prog.cellsOf 3 = 1 := by kernel_rfl
theorem Try.bytesInt : Try.prog.bytesOf 3 = 8 := by kernel_rfl
theorem Try.laidOutAllI : laidOutB Try.prog = true := by kernel_rfl

theorem open_si {H : Type} {enc : TypeId × Value → H} {W : World} {A : Option Addr} {n c : Nat} {d : DataW H} {p : List MemPlace} (h : DataW.Trod enc Try.prog W 0 (fun _ => true) true 22 (.slice A n c) d p) :
    ∃ g, IRow W A n g ∧ n ≤ c ∧ c ≤ maxLen ∧ (∀ k, k < n → (Lit.int .i64 (g k)).wf = true) ∧ ((d = .nil ∧ n = 0) ∨ ∃ zs : List Int, d = .slice (lits .i64 (zs.take n)) (lits .i64 (zs.drop n)) ∧ n ≤ zs.length) := by
  obtain ⟨fuel, hf⟩ := h
  rcases open_ints Try.underlying22 Try.underlying3 Try.cellsInt hf with ⟨hcs, hx⟩ | ⟨a, len', cap', zs, hcs, _, hl, hm, hz, hx, hcell, hws⟩
  · simp [Value.cells] at hcs
    obtain ⟨rfl, rfl, rfl⟩ := hcs
    simp only [Prod.mk.injEq] at hx
    exact ⟨fun _ => 0, fun k hk => by omega, by omega, by decide, fun k hk => by omega, .inl ⟨hx.1, rfl⟩⟩
  · simp [Value.cells] at hcs
    obtain ⟨rfl, rfl, rfl⟩ := hcs
    simp only [Prod.mk.injEq] at hx
    simp only [if_true] at hz
    refine ⟨fun k => zs.getD k 0, ?_, hl, hm, ?_, .inr ⟨zs, hx.1, by omega⟩⟩
    · intro k hk
      obtain ⟨b, off, spot⟩ := a
      have hspot : spot = none := by simpa [Addr.add] using World.cell?_spot (hcell 0 (by omega))
      subst hspot
      have hc := hcell k (by omega)
      rw [Addr.add_lit] at hc
      exact ⟨b, off, rfl, World.block_lt_of_cell? _ _ hc, hc⟩
    · intro k hk
      have hk' : k < zs.length := by omega
      have : zs.getD k 0 ∈ zs := by
        rw [List.getD_eq_getElem?_getD, List.getElem?_eq_getElem hk']
        exact List.getElem_mem hk'
      exact hws _ this
end Go.Proofs.Ythebjelkmopboaa
