
/-
How long a list of ops is that came in.
-/
import Derived.Test.YtgkagigagcamoaaOpenSO
namespace Go.Proofs.Ytgkagigagcamoaa
open Go.ChangeShapes Go.WideShapes Go.ChangeAt Go.RowKit Go.Deep

theorem Try.bytesOp : Try.prog.bytesOf 23 = 24 := by kernel_rfl
theorem open_so_len {H : Type} {enc : TypeId × Value → H} {W : World} {A : Option Addr} {n c : Nat} {d : DataW H} {p : List MemPlace} (h : DataW.Trod enc Try.prog W 0 (fun _ => true) true 33 (.slice A n c) d p) :
    n = 0 ∨ ∃ xs ys, d = .slice xs ys ∧ xs.length = n := by
  obtain ⟨fuel, hf⟩ := h
  rcases open_slice Try.underlying33 hf with ⟨hcs, _⟩ | ⟨a, len', cap', m, f, D, Pl, hcs, _, _, _, _, hx, _⟩
  · simp [Value.cells] at hcs
    exact .inl hcs.2.1
  · simp [Value.cells] at hcs
    obtain ⟨_, h2, _⟩ := hcs
    injection hx with hx _
    exact .inr ⟨_, _, hx, by rw [List.length_map, List.length_range, h2]⟩
end Go.Proofs.Ytgkagigagcamoaa
