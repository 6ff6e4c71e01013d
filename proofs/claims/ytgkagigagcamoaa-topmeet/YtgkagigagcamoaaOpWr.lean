
/-
Rows of ops that may be written; a struct variable that holds an op.
-/
import Derived.Test.YtgkagigagcamoaaOpRow
namespace Go.Proofs.Ytgkagigagcamoaa
open Go.RowKit

/-- The three cells at p of block b hold the op x, and may be written. -/
def Op3 (w : World) (b p : Nat) (x : Sh.Op) : Prop :=
  w.cell? ⟨b, p, none⟩ = some (.int .i64 x.k) ∧ w.cell? ⟨b, p + 1, none⟩ = some (.int .i64 x.a) ∧ w.cell? ⟨b, p + 2, none⟩ = some (.int .u8 (x.b.toNat : Int)) ∧
    w.frozen? ⟨b, p, none⟩ = false ∧ w.frozen? ⟨b, p + 1, none⟩ = false ∧ w.frozen? ⟨b, p + 2, none⟩ = false
theorem Op3.block {w w' : World} {b p : Nat} {x : Sh.Op} (h : Op3 w b p x) (e : w'.heap[b]? = w.heap[b]?) : Op3 w' b p x := by
  have ec : ∀ j, w'.cell? ⟨b, j, none⟩ = w.cell? ⟨b, j, none⟩ := fun j => World.cell?_of_block (a := ⟨b, j, none⟩) e
  have ef : ∀ j, w'.frozen? ⟨b, j, none⟩ = w.frozen? ⟨b, j, none⟩ := fun j => World.frozen?_of_block (a := ⟨b, j, none⟩) e
  unfold Op3
  rw [ec, ec, ec, ef, ef, ef]
  exact h
/-- An op is written at p of block b. -/
def putO (w : World) (b p : Nat) (x : Sh.Op) : World := ((w.setCell ⟨b, p, none⟩ (.int .i64 x.k)).setCell ⟨b, p + 1, none⟩ (.int .i64 x.a)).setCell ⟨b, p + 2, none⟩ (.int .u8 (x.b.toNat : Int))
theorem putO_same {w : World} {b p : Nat} {x y : Sh.Op} (h : Op3 w b p y) : Op3 (putO w b p x) b p x := by
  obtain ⟨h1, h2, h3, h4, h5, h6⟩ := h
  have n1 : ∀ q r : Nat, q ≠ r → (⟨b, q, none⟩ : Addr) ≠ ⟨b, r, none⟩ := fun q r e h => e (by injection h)
  unfold putO
  refine ⟨?_, ?_, ?_, by simpa using h4, by simpa using h5, by simpa using h6⟩
  · rw [World.cell?_setCell_other _ _ _ _ (n1 _ _ (by omega)), World.cell?_setCell_other _ _ _ _ (n1 _ _ (by omega)), World.cell?_setCell_same _ _ _ h1]
  · rw [World.cell?_setCell_other _ _ _ _ (n1 _ _ (by omega))]
    exact World.cell?_setCell_same _ _ _ ((World.cell?_setCell_other _ _ _ _ (n1 _ _ (by omega))).trans h2)
  · exact World.cell?_setCell_same _ _ _ ((World.cell?_setCell_other _ _ _ _ (n1 _ _ (by omega))).trans ((World.cell?_setCell_other _ _ _ _ (n1 _ _ (by omega))).trans h3))
theorem putO_other {w : World} {b p q : Nat} {x y : Sh.Op} (h : Op3 w b q y) (hne : q + 3 ≤ p ∨ p + 3 ≤ q) : Op3 (putO w b p x) b q y := by
  obtain ⟨h1, h2, h3, h4, h5, h6⟩ := h
  have n1 : ∀ q r : Nat, q ≠ r → (⟨b, q, none⟩ : Addr) ≠ ⟨b, r, none⟩ := fun q r e h => e (by injection h)
  unfold putO
  refine ⟨?_, ?_, ?_, by simpa using h4, by simpa using h5, by simpa using h6⟩
  · rw [World.cell?_setCell_other _ _ _ _ (n1 _ _ (by omega)), World.cell?_setCell_other _ _ _ _ (n1 _ _ (by omega)), World.cell?_setCell_other _ _ _ _ (n1 _ _ (by omega))]
    exact h1
  · rw [World.cell?_setCell_other _ _ _ _ (n1 _ _ (by omega)), World.cell?_setCell_other _ _ _ _ (n1 _ _ (by omega)), World.cell?_setCell_other _ _ _ _ (n1 _ _ (by omega))]
    exact h2
  · rw [World.cell?_setCell_other _ _ _ _ (n1 _ _ (by omega)), World.cell?_setCell_other _ _ _ _ (n1 _ _ (by omega)), World.cell?_setCell_other _ _ _ _ (n1 _ _ (by omega))]
    exact h3
theorem putO_heap (w : World) (b p : Nat) (x : Sh.Op) (q : Nat) (h : q ≠ b) : (putO w b p x).heap[q]? = w.heap[q]? := by
  unfold putO
  rw [Below.heap_setCell _ _ _ q h, Below.heap_setCell _ _ _ q h, Below.heap_setCell _ _ _ q h]
theorem putO_size (w : World) (b p : Nat) (x : Sh.Op) : (putO w b p x).heap.size = w.heap.size := by simp [putO]
theorem bl_putO {base : Nat} {w w' : World} {b p : Nat} {x : Sh.Op} (h : Below base w w') (hb : base ≤ b) : Below base w (putO w' b p x) := ((h.setCell hb _).setCell hb _).setCell hb _
/-- A row of ops that may be written. -/
def OpWr (base : Nat) (w : World) (A : Option Addr) (n : Nat) (F : Nat → Sh.Op) : Prop :=
  ∀ k, k < n → ∃ b o, A = some ⟨b, o, none⟩ ∧ base ≤ b ∧ b < w.heap.size ∧ Op3 w b (o + k * 3) (F k)
theorem OpWr.keep {base : Nat} {w w' : World} {A : Option Addr} {n : Nat} {F : Nat → Sh.Op} (h : OpWr base w A n F) (hb : Below w.heap.size w w') : OpWr base w' A n F := fun k hk => by
  obtain ⟨b, o, h1, h2, h3, h4⟩ := h k hk
  exact ⟨b, o, h1, h2, Nat.lt_of_lt_of_le h3 hb.size, h4.block (hb.block b h3)⟩
theorem OpWr.row {base : Nat} {w : World} {A : Option Addr} {n : Nat} {F : Nat → Sh.Op} (h : OpWr base w A n F) : OpRow w A n F := fun k hk => by
  obtain ⟨b, o, h1, _, h3, h4, h5, h6, _⟩ := h k hk
  exact ⟨b, o, h1, h3, h4, h5, h6⟩
theorem OpWr.congr {base : Nat} {w : World} {A : Option Addr} {n : Nat} {F G : Nat → Sh.Op} (h : OpWr base w A n F) (e : ∀ k, k < n → F k = G k) : OpWr base w A n G := fun k hk => by
  obtain ⟨b, o, h1, h2, h3, h4⟩ := h k hk
  exact ⟨b, o, h1, h2, h3, e k hk ▸ h4⟩
theorem OwnO.opAt {w : World} {base : Nat} {v : Value} {L : List Sh.Op} (h : OwnO w base v L) (h0 : 0 < L.length) : ∃ g cap, v = .slice (some ⟨g, 0, none⟩) L.length cap ∧ L.length ≤ cap ∧ base ≤ g ∧ g < w.heap.size ∧ ∀ k, k < L.length → Op3 w g (0 + k * 3) (L.getD k Sh.zero) := by
  have hlt := World.ownsRow.lt h
  rcases h.2 with ⟨rfl, h1⟩ | ⟨g, cap, cur, rfl, h1, h2, h3, h4, h5, h6⟩
  · omega
  · refine ⟨g, cap, rfl, h3, h1, (hlt g rfl).2, fun k hk => ?_⟩
    have hf := op_flat L k hk
    have hcell : ∀ j, j < L.length * 3 → w.cell? ⟨g, j, none⟩ = (L.flatMap opC)[j]? := by
      intro j hj
      rw [← h6, List.getElem?_take, if_pos hj, cell_of_row _ _ _ _ _ _ h2]
      simp
    have hfz : ∀ j, w.frozen? ⟨g, j, none⟩ = false := fun j => by
      unfold World.frozen?
      rw [h2]
      simp
    have e : L.getD k Sh.zero = L[k] := by rw [List.getD_eq_getElem?_getD, List.getElem?_eq_getElem hk]; rfl
    unfold Op3
    rw [Nat.zero_add, hcell _ (by omega), hcell _ (by omega), hcell _ (by omega), hf.1, hf.2.1, hf.2.2, e]
    exact ⟨rfl, rfl, rfl, hfz _, hfz _, hfz _⟩
theorem OwnO.opWr {w : World} {base : Nat} {v : Value} {L : List Sh.Op} (h : OwnO w base v L) : ∃ A c, v = .slice A L.length c ∧ L.length ≤ c ∧ OpWr base w A L.length (fun k => L.getD k Sh.zero) := by
  by_cases h0 : 0 < L.length
  · obtain ⟨g, cap, h1, h2, h3, h4, h5⟩ := h.opAt h0
    exact ⟨_, cap, h1, h2, fun k hk => ⟨g, 0, rfl, h3, h4, h5 k hk⟩⟩
  · obtain ⟨A, c, h1, h2, _⟩ := h.row
    exact ⟨A, c, h1, h2, fun k hk => absurd hk (by omega)⟩
theorem OpWr.set {base : Nat} {w : World} {b o n k : Nat} {F : Nat → Sh.Op} (h : OpWr base w (some ⟨b, o, none⟩) n F) (z : Sh.Op) (hk : k < n) :
    OpWr base (putO w b (o + k * 3) z) (some ⟨b, o, none⟩) n (fun j => if j = k then z else F j) := fun j hj => by
  obtain ⟨b', o', h1, h2, h3, h4⟩ := h j hj
  injection h1 with h1
  injection h1 with e1 e2
  subst e1 e2
  refine ⟨b, o, rfl, h2, by rw [putO_size]; exact h3, ?_⟩
  by_cases hjk : j = k
  · subst hjk
    simp only [if_true]
    exact putO_same h4
  · simp only [if_neg hjk]
    exact putO_other h4 (by omega)
theorem OpWr.apart {base : Nat} {w : World} {A : Option Addr} {n p b : Nat} {F : Nat → Sh.Op} (h : OpWr base w A n F) (z : Sh.Op) (hne : ∀ b' o, A = some ⟨b', o, none⟩ → b' ≠ b) : OpWr base (putO w b p z) A n F := fun k hk => by
  obtain ⟨b', o, h1, h2, h3, h4⟩ := h k hk
  exact ⟨b', o, h1, h2, by rw [putO_size]; exact h3, h4.block (putO_heap _ _ _ _ _ (hne b' o h1))⟩
theorem Op3.new (w : World) (x : Sh.Op) (t : TypeId) (N : Nat) (hN : w.heap.size = N) : Op3 (w.alloc (.cells #[.int .i64 x.k, .int .i64 x.a, .int .u8 (x.b.toNat : Int)] t)) N 0 x := by
  subst hN
  have h := op_new w x t
  have hf : ∀ j, (w.alloc (.cells #[.int .i64 x.k, .int .i64 x.a, .int .u8 (x.b.toNat : Int)] t)).frozen? ⟨w.heap.size, j, none⟩ = false := fun j => by
    unfold World.frozen?
    rw [heap_alloc_new]
    simp
  exact ⟨h.1, h.2.1, h.2.2, hf _, hf _, hf _⟩
end Go.Proofs.Ytgkagigagcamoaa
