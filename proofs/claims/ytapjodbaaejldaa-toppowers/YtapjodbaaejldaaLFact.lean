
/-
The contract of lyndon.Split once more, at a row that reads as g 0, g 1, ..; the contract of lyndon.Least beside quillref.LeastTurn's.
-/
import Derived.Test.YtapjodbaaejldaaLSplit
import Derived.Test.YtapjodbaaejldaaStrLib
namespace Go.Proofs.Ytapjodbaaejldaa
open Go.RowKit

/-- The first n strings of g are Lyndon words, none less than a following one, that together are s. -/
def FactG (s : ByteArray) (n : Nat) (g : Nat → ByteArray) : Prop := Lm.Fact (wd s) ((rowL g n).map wd)
theorem rowL_mem {g : Nat → ByteArray} {n k : Nat} (h : k < n) : wd (g k) ∈ (rowL g n).map wd := by
  unfold rowL
  exact List.mem_map_of_mem (List.mem_map_of_mem (List.mem_range.2 h))
theorem FactG.lyn {s : ByteArray} {n : Nat} {g : Nat → ByteArray} (h : FactG s n g) {k : Nat} (hk : k < n) : LynS (g k) := Lm.Fact.lyn h _ (rowL_mem hk)
theorem flat_mem {x : List UInt8} : ∀ {l : List (List UInt8)}, x ∈ l → x.length ≤ l.flatten.length
  | [], h => by simp at h
  | y :: l, h => by
    rw [List.flatten_cons, List.length_append]
    rcases List.mem_cons.1 h with rfl | h
    · omega
    · have := flat_mem h; omega
theorem FactG.small {s : ByteArray} {n : Nat} {g : Nat → ByteArray} (h : FactG s n g) {k : Nat} (hk : k < n) : (g k).size ≤ s.size := by
  have := flat_mem (rowL_mem (g := g) hk)
  rw [Lm.Fact.all h, wd_len, wd_len] at this
  exact this
theorem FactG.falls {s : ByteArray} {n : Nat} {g : Nat → ByteArray} (h : FactG s n g) {j k : Nat} (hj : j < k) (hk : k < n) : ¬ wd (g j) < wd (g k) := by
  have := List.pairwise_iff_getElem.1 (Lm.Fact.falls h) j k (by rw [List.length_map, rowL_len]; omega) (by rw [List.length_map, rowL_len]; omega) hj
  simpa [rowL] using this
theorem fact_of {s : ByteArray} {n : Nat} {g : Nat → ByteArray} (h1 : ∀ k, k < n → LynS (g k)) (h2 : ∀ k, k + 1 < n → ¬ wd (g k) < wd (g (k + 1))) (h3 : ((rowL g n).map wd).flatten = wd s) : FactG s n g := by
  refine ⟨fun w hw => ?_, ?_, h3⟩
  · obtain ⟨x, hx, rfl⟩ := List.mem_map.1 hw
    obtain ⟨k, hk, rfl⟩ := List.mem_map.1 hx
    exact h1 k (List.mem_range.1 hk)
  · have key : ∀ j d, j + d < n → ¬ wd (g j) < wd (g (j + d)) := by
      intro j d
      induction d with
      | zero => intro _; exact Lm.irr _
      | succ d ih => intro hd; exact Lm.le_tr (h2 (j + d) (by omega)) (ih (by omega))
    rw [List.pairwise_iff_getElem]
    intro i j hi hj hij
    rw [List.length_map, rowL_len] at hi hj
    have := key i (j - i) (by omega)
    rw [show i + (j - i) = j by omega] at this
    simpa [rowL] using this
def RetSplitG (s : ByteArray) (w : World) (e : Ending) (w' : World) : Prop :=
  ∃ (A : Option Addr) (c n : Nat) (g : Nat → ByteArray), e = .returned (.tuple #[.slice A n c, .int .i64 0]) ∧ n ≤ c ∧ n ≤ s.size ∧ SRow w' A n g ∧ FactG s n g ∧ Below w.heap.size w w'
theorem Split_row (s : ByteArray) (w : World) (hs : s.size ≤ 200) : Calls Try.prog 46 #[.string s] w (RetSplitG s w) := by
  refine (Split_ok s w hs).mono ?_
  rintro e w1 ⟨A, c, N, rfl, h1, h2, h3, h4, h5⟩
  exact ⟨A, c, N.length, _, rfl, h1, h4, h2, by unfold FactG; rw [rowL_of]; exact h3, h5⟩
end Go.Proofs.Ytapjodbaaejldaa
