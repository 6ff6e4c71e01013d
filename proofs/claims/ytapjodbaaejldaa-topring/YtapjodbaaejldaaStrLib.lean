
/-
The library's functions on rows of strings, at rows that read as one knows: slices.Equal, strings.Join with nothing between, slices.Min and slices.Index.
-/
import Derived.Test.YtapjodbaaejldaaSRows
import Derived.Test.YtapjodbaaejldaaShelfL
namespace Go.Proofs.Ytapjodbaaejldaa
open Go.RowKit

/-- The row's strings as a list. -/
def rowL (g : Nat → ByteArray) (n : Nat) : List ByteArray := (List.range n).map g
theorem rowL_len (g : Nat → ByteArray) (n : Nat) : (rowL g n).length = n := by unfold rowL; simp
theorem rowL_get {g : Nat → ByteArray} {n k : Nat} (h : k < n) : (rowL g n).getD k ByteArray.empty = g k := by
  unfold rowL
  simp [List.getD_eq_getElem?_getD, List.getElem?_range h]
theorem rowL_of (N : List ByteArray) : rowL (fun k => N.getD k ByteArray.empty) N.length = N := by
  refine List.ext_getElem (by rw [rowL_len]) fun i h1 h2 => ?_
  have := rowL_get (g := fun k => N.getD k ByteArray.empty) h2
  rw [getD_lt h1, getD_lt h2] at this
  exact this
theorem rowL_eq {g h : Nat → ByteArray} {n m : Nat} : rowL g n = rowL h m ↔ n = m ∧ ∀ k, k < n → g k = h k := by
  constructor
  · intro e
    have hl := congrArg List.length e
    rw [rowL_len, rowL_len] at hl
    subst hl
    refine ⟨rfl, fun k hk => ?_⟩
    rw [← rowL_get (g := g) hk, e, rowL_get hk]
  · rintro ⟨rfl, h1⟩
    refine List.ext_getElem (by rw [rowL_len, rowL_len]) fun i h2 h3 => ?_
    rw [rowL_len] at h2
    rw [← getD_lt (d := ByteArray.empty), ← getD_lt (d := ByteArray.empty), rowL_get h2, rowL_get h2]
    exact h1 i h2
theorem SRow.spot {w : World} {A : Option Addr} {n : Nat} {g : Nat → ByteArray} (h : SRow w A n g) (hn : 0 < n) : ∃ b o, A = some ⟨b, o, none⟩ ∧ b < w.heap.size ∧ ∀ k, k < n → w.cell? ⟨b, o + k, none⟩ = some (.string (g k)) := by
  obtain ⟨b, o, rfl, hb, _⟩ := h 0 hn
  refine ⟨b, o, rfl, hb, fun k hk => ?_⟩
  obtain ⟨b', o', e, _, hc⟩ := h k hk
  injection e with e
  injection e with e1 e2
  subst e1; subst e2
  exact hc
theorem sindex_any {A : Option Addr} {n c j0 : Nat} {g : Nat → ByteArray} {w : World} (h : SRow w A n g) (hn : n ≤ maxLen) (hj : j0 < n) (hm : ∀ j, j < j0 → g j ≠ g j0) :
    Calls Try.prog 144 #[.slice A n c, .string (g j0)] w fun e w' => e = .returned (.int .i64 (j0 : Int)) ∧ w = w' := by
  unfold maxLen at hn
  obtain ⟨b, o, rfl, hb, hcell⟩ := h.spot (by omega)
  have hlen := rowL_len g n
  refine (Try.slices_Index_string b o n c (rowL g n) (g j0) w (by omega) (by omega) (fun j hj => ?_)).mono ?_
  · rw [rowL_get (by omega)]; exact hcell j (by omega)
  rintro e w1 ⟨rfl, rfl⟩
  rw [Lib.idxOfS_hit (rowL g n) n j0 (g j0) hj (by omega) (rowL_get hj) (fun j hj2 => by rw [rowL_get (by omega)]; exact hm j hj2)]
  exact ⟨rfl, rfl⟩
end Go.Proofs.Ytapjodbaaejldaa
