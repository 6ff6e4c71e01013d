/-
The library's functions on rows of strings, at rows that read as one knows: slices.Equal, strings.Join with nothing between, slices.Min and slices.Index.
-/
import Derived.Test.YtppochjhodafdaaSRows
import Derived.Test.YtppochjhodafdaaShelfL
namespace Go.Proofs.Ytppochjhodafdaa
open Go.RowKit

/-- The row's strings as a list. -/
def rowL (g : Nat → ByteArray) (n : Nat) : List ByteArray := (List.range n).map g
theorem rowL_len (g : Nat → ByteArray) (n : Nat) : (rowL g n).length = n := by unfold rowL; simp
theorem rowL_get {g : Nat → ByteArray} {n k : Nat} (h : k < n) : (rowL g n).getD k ByteArray.empty = g k := by
  unfold rowL
  simp [List.getD_eq_getElem?_getD, List.getElem?_range h]
theorem rowL_of (N : List ByteArray) : rowL (fun k => N.getD k ByteArray.empty) N.length = N := by
  refine List.ext_getElem (by rw [rowL_len]) fun i h1 h2 => ?_
  have := rowL_get (g := fun k => N.getD k ByteArray.empty) h2
  rw [getD_lt h1, getD_lt h2] at this
  exact this
theorem rowL_eq {g h : Nat → ByteArray} {n m : Nat} : rowL g n = rowL h m ↔ n = m ∧ ∀ k, k < n → g k = h k := by
  constructor
  · intro e
    have hl := congrArg List.length e
    rw [rowL_len, rowL_len] at hl
    subst hl
    refine ⟨rfl, fun k hk => ?_⟩
    rw [← rowL_get (g := g) hk, e, rowL_get hk]
  · rintro ⟨rfl, h1⟩
    refine List.ext_getElem (by rw [rowL_len, rowL_len]) fun i h2 h3 => ?_
    rw [rowL_len] at h2
    rw [← getD_lt (d := ByteArray.empty), ← getD_lt (d := ByteArray.empty), rowL_get h2, rowL_get h2]
    exact h1 i h2
theorem SRow.spot {w : World} {A : Option Addr} {n : Nat} {g : Nat → ByteArray} (h : SRow w A n g) (hn : 0 < n) : ∃ b o, A = some ⟨b, o, none⟩ ∧ b < w.heap.size ∧ ∀ k, k < n → w.cell? ⟨b, o + k, none⟩ = some (.string (g k)) := by
  obtain ⟨b, o, rfl, hb, _⟩ := h 0 hn
  refine ⟨b, o, rfl, hb, fun k hk => ?_⟩
  obtain ⟨b', o', e, _, hc⟩ := h k hk
  injection e with e
  injection e with e1 e2
  subst e1; subst e2
  exact hc
theorem sequal_any {A1 A2 : Option Addr} {n m c1 c2 : Nat} {g1 g2 : Nat → ByteArray} {w : World} (h1 : SRow w A1 n g1) (h2 : SRow w A2 m g2) (hn : n ≤ maxLen) (hm : m ≤ maxLen) (b : Bool) (hb : b = decide (rowL g1 n = rowL g2 m)) :
    Calls Try.prog 31 #[.slice A1 n c1, .slice A2 m c2] w fun e w' => e = .returned (.bool b) ∧ Drew w w' := by
  subst hb
  unfold maxLen at hn hm
  by_cases hnm : n = m
  · subst hnm
    by_cases h0 : n = 0
    · subst h0
      refine (Try.slices_Equal_string_empty A1 A2 c1 0 c2 w (by omega)).mono ?_
      rintro e w1 ⟨rfl, rfl⟩
      exact ⟨rfl, Drew.refl _⟩
    · obtain ⟨b1, o1, rfl, _, hc1⟩ := h1.spot (by omega)
      obtain ⟨b2, o2, rfl, _, hc2⟩ := h2.spot (by omega)
      have hl1 := rowL_len g1 n
      have hl2 := rowL_len g2 n
      refine (Try.slices_Equal_string b1 o1 n c1 b2 o2 n c2 (rowL g1 n) (rowL g2 n) w (by omega) (by omega) (by omega) (by omega) (fun j hj => ?_) (fun j hj => ?_)).mono ?_
      · rw [rowL_get (by omega)]; exact hc1 j (by omega)
      · rw [rowL_get (by omega)]; exact hc2 j (by omega)
      rintro e w1 ⟨rfl, q, rfl⟩
      refine ⟨?_, q, rfl⟩
      rw [List.take_of_length_le (by omega), List.take_of_length_le (by omega)]
  · refine (Try.slices_Equal_string_lens A1 A2 n c1 m c2 w hnm).mono ?_
    rintro e w1 ⟨rfl, rfl⟩
    refine ⟨ret_bool (decide_eq_false fun e => hnm (rowL_eq.1 e).1).symm, Drew.refl _⟩
end Go.Proofs.Ytppochjhodafdaa
