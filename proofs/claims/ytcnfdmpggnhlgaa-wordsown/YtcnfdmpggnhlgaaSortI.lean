/-
slices.Sort at a row of numbers, and at a row of strings, of the program's own.
-/
import Derived.Test.YtcnfdmpggnhlgaaAdd
import Derived.Test.YtcnfdmpggnhlgaaShelfS
import Derived.Sort.OwnSortedInts
namespace Go.Proofs.Ytcnfdmpggnhlgaa
open Go.RowKit

theorem sort_own (w : World) (base : Nat) (v : Value) (L : List Int) (hown : OwnI w base v L) (hl : L.length < 1000000) (hb : base ≤ w.heap.size) :
    Calls Try.prog 70 #[v] w fun e w' => e = .returned (.tuple #[]) ∧ OwnI w' base v (L.mergeSort fun x y => decide (x ≤ y)) ∧ Below base w w' := by
  have hlen : (L.mergeSort fun x y => decide (x ≤ y)).length = L.length := (List.mergeSort_perm _ _).length_eq
  rcases hown.2 with ⟨rfl, h0⟩ | ⟨g, cap, cur, rfl, h1, h2, h3, h4, h5, h6⟩
  · have hL : L = [] := by simpa using h0
    subst hL
    refine (Try.slices_Sort_int_none none 0 w).mono ?_
    rintro e w1 ⟨rfl, rfl⟩
    exact ⟨rfl, by simpa using hown, Below.refl _ _⟩
  · rw [Nat.mul_one] at h6
    refine (Try.slices_Sort_int g 0 cap L w (holds_of_blockI h2 h6) (Array.getElem?_eq_some_iff.1 h2).1 (by omega)).mono ?_
    rintro e w1 ⟨rfl, n, os, rfl⟩
    refine ⟨rfl, ?_, ?_⟩
    · have := ownsRow_sortedI (n := n) (os := os) hlen h1 h2 h3 h4 h5
      unfold OwnI
      rw [hlen]
      exact this
    · refine (Below.refl base w).grown (grownBy_sortedI (n := n) (os := os) _) hb ?_
      intro k hk
      injection hk with hk
      omega
end Go.Proofs.Ytcnfdmpggnhlgaa
