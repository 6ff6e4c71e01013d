
/-
A list of strings that came in, read.
-/
import Derived.Test.YtppaicpjbcjgmaaSRows
import Derived.ProofKit
import Derived.SliceStrings
import Derived.SizedLaws
namespace Go.Proofs.Ytppaicpjbcjgmaa
open Go.ChangeShapes Go.WideShapes Go.ChangeAt Go.RowKit

theorem Try.cellsStr : Try.prog.cellsOf 9 = 1 := by kernel_rfl
theorem Try.bytesStr : Try.prog.bytesOf 9 = 16 := by kernel_rfl
theorem Try.laidOutAll : laidOutB Try.prog = true := by kernel_rfl

theorem open_ss {H : Type} {enc : TypeId × Value → H} {W : World} {A : Option Addr} {n c : Nat} {d : DataW H} {p : List MemPlace} (h : DataW.Trod enc Try.prog W 0 (fun _ => true) true 22 (.slice A n c) d p) :
    ∃ g, SRow W A n g ∧ n ≤ c ∧ c ≤ maxLen ∧ (∀ k, k < n → (g k).size ≤ maxLen) ∧ ((d = .nil ∧ n = 0) ∨ ∃ ss : List ByteArray, d = .slice (strs (ss.take n)) (strs (ss.drop n)) ∧ n ≤ ss.length) := by
  obtain ⟨fuel, hf⟩ := h
  rcases open_strings Try.underlying22 Try.underlying9 Try.cellsStr hf with ⟨hcs, hx⟩ | ⟨a, len', cap', ss, hcs, _, hl, hm, hz, hx, hcell, hws⟩
  · simp [Value.cells] at hcs
    obtain ⟨rfl, rfl, rfl⟩ := hcs
    simp only [Prod.mk.injEq] at hx
    exact ⟨fun _ => ByteArray.empty, fun k hk => by omega, by omega, by decide, fun k hk => by omega, .inl ⟨hx.1, rfl⟩⟩
  · simp [Value.cells] at hcs
    obtain ⟨rfl, rfl, rfl⟩ := hcs
    simp only [Prod.mk.injEq] at hx
    simp only [if_true] at hz
    refine ⟨fun k => ss.getD k ByteArray.empty, ?_, hl, hm, ?_, .inr ⟨ss, hx.1, by omega⟩⟩
    · intro k hk
      obtain ⟨b, off, spot⟩ := a
      have hspot : spot = none := by simpa [Addr.add] using World.cell?_spot (hcell 0 (by omega))
      subst hspot
      have hc := hcell k (by omega)
      rw [Addr.add_lit] at hc
      exact ⟨b, off, rfl, World.block_lt_of_cell? _ _ hc, hc⟩
    · intro k hk
      have hk' : k < ss.length := by omega
      have : ss.getD k ByteArray.empty ∈ ss := by
        rw [List.getD_eq_getElem?_getD, List.getElem?_eq_getElem hk']
        exact List.getElem_mem hk'
      exact hws _ this
end Go.Proofs.Ytppaicpjbcjgmaa
