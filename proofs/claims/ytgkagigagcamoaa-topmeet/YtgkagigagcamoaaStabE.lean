
/-
The contracts of slices.SortStableFunc at []api.Edit, with quillref.BothOf's closure: its helpers one by one.
-/
import Derived.Test.YtgkagigagcamoaaMathAll
import Derived.Test.YtgkagigagcamoaaEvRow
import Derived.RegionTactic
import Derived.BigRegion
import Derived.Deep.RegionHeld3
namespace Go.Proofs.Ytgkagigagcamoaa
open Go.RowKit

/-- The three cells at p of block b hold the edit x, and may be written. -/
def Ev3 (w : World) (b p : Nat) (x : Es.Ev) : Prop :=
  w.cell? ⟨b, p, none⟩ = some (.int .i64 x.a) ∧ w.cell? ⟨b, p + 1, none⟩ = some (.int .i64 x.d) ∧ w.cell? ⟨b, p + 2, none⟩ = some (.string x.s) ∧
    w.frozen? ⟨b, p, none⟩ = false ∧ w.frozen? ⟨b, p + 1, none⟩ = false ∧ w.frozen? ⟨b, p + 2, none⟩ = false
theorem Ev3.block {w w' : World} {b p : Nat} {x : Es.Ev} (h : Ev3 w b p x) (e : w'.heap[b]? = w.heap[b]?) : Ev3 w' b p x := by
  have ec : ∀ j, w'.cell? ⟨b, j, none⟩ = w.cell? ⟨b, j, none⟩ := fun j => World.cell?_of_block (a := ⟨b, j, none⟩) e
  have ef : ∀ j, w'.frozen? ⟨b, j, none⟩ = w.frozen? ⟨b, j, none⟩ := fun j => World.frozen?_of_block (a := ⟨b, j, none⟩) e
  unfold Ev3
  rw [ec, ec, ec, ef, ef, ef]
  exact h
/-- An edit is written at p of block b. -/
def put3 (w : World) (b p : Nat) (x : Es.Ev) : World := ((w.setCell ⟨b, p, none⟩ (.int .i64 x.a)).setCell ⟨b, p + 1, none⟩ (.int .i64 x.d)).setCell ⟨b, p + 2, none⟩ (.string x.s)
theorem put3_same {w : World} {b p : Nat} {x y : Es.Ev} (h : Ev3 w b p y) : Ev3 (put3 w b p x) b p x := by
  obtain ⟨h1, h2, h3, h4, h5, h6⟩ := h
  have n1 : ∀ q r : Nat, q ≠ r → (⟨b, q, none⟩ : Addr) ≠ ⟨b, r, none⟩ := fun q r e h => e (by injection h)
  unfold put3
  refine ⟨?_, ?_, ?_, by simpa using h4, by simpa using h5, by simpa using h6⟩
  · rw [World.cell?_setCell_other _ _ _ _ (n1 _ _ (by omega)), World.cell?_setCell_other _ _ _ _ (n1 _ _ (by omega)), World.cell?_setCell_same _ _ _ h1]
  · rw [World.cell?_setCell_other _ _ _ _ (n1 _ _ (by omega))]
    exact World.cell?_setCell_same _ _ _ ((World.cell?_setCell_other _ _ _ _ (n1 _ _ (by omega))).trans h2)
  · exact World.cell?_setCell_same _ _ _ ((World.cell?_setCell_other _ _ _ _ (n1 _ _ (by omega))).trans ((World.cell?_setCell_other _ _ _ _ (n1 _ _ (by omega))).trans h3))
theorem put3_other {w : World} {b p q : Nat} {x y : Es.Ev} (h : Ev3 w b q y) (hne : q + 3 ≤ p ∨ p + 3 ≤ q) : Ev3 (put3 w b p x) b q y := by
  obtain ⟨h1, h2, h3, h4, h5, h6⟩ := h
  have n1 : ∀ q r : Nat, q ≠ r → (⟨b, q, none⟩ : Addr) ≠ ⟨b, r, none⟩ := fun q r e h => e (by injection h)
  unfold put3
  refine ⟨?_, ?_, ?_, by simpa using h4, by simpa using h5, by simpa using h6⟩
  · rw [World.cell?_setCell_other _ _ _ _ (n1 _ _ (by omega)), World.cell?_setCell_other _ _ _ _ (n1 _ _ (by omega)), World.cell?_setCell_other _ _ _ _ (n1 _ _ (by omega))]
    exact h1
  · rw [World.cell?_setCell_other _ _ _ _ (n1 _ _ (by omega)), World.cell?_setCell_other _ _ _ _ (n1 _ _ (by omega)), World.cell?_setCell_other _ _ _ _ (n1 _ _ (by omega))]
    exact h2
  · rw [World.cell?_setCell_other _ _ _ _ (n1 _ _ (by omega)), World.cell?_setCell_other _ _ _ _ (n1 _ _ (by omega)), World.cell?_setCell_other _ _ _ _ (n1 _ _ (by omega))]
    exact h3
/-- The edits E (g 0), E (g 1), .. lie from o on in block b; nothing else has changed since w0. -/
structure SE (w0 : World) (b o n : Nat) (E : Nat → Es.Ev) (g : Nat → Nat) (w : World) : Prop where
  row : ∀ k, k < n → Ev3 w b (o + k * 3) (E (g k))
  gr : w0.grownBy w (some b)
  val : ∀ k, k < n → g k < n
  lt : b < w.heap.size
theorem gsetE {w a : World} {g i : Nat} {v : Value} (h : w.grownBy a (some g)) : w.grownBy (a.setCell ⟨g, i, none⟩ v) (some g) :=
  ⟨h.os, h.tape, h.output, by simpa using h.size, fun x hx hne => (Below.heap_setCell a _ v x (fun e => hne (by rw [e]))).trans (h.block x hx hne)⟩
theorem gbelowE {w a b : World} {g : Option Nat} (h : w.grownBy a g) (k : Below a.heap.size a b) : w.grownBy b g :=
  ⟨k.os.trans h.os, k.tape.trans h.tape, k.output.trans h.output, Nat.le_trans h.size k.size, fun x hx hne => (k.block x (Nat.lt_of_lt_of_le hx h.size)).trans (h.block x hx hne)⟩
theorem SE.drewN {w0 w : World} {b o n : Nat} {E : Nat → Es.Ev} {g : Nat → Nat} (h : SE w0 b o n E g w) (d : Nat) : SE w0 b o n E g (w.drewN d) := ⟨h.row, ⟨h.gr.os, h.gr.tape, h.gr.output, h.gr.size, h.gr.block⟩, h.val, h.lt⟩
theorem SE.keep {w0 w w' : World} {b o n : Nat} {E : Nat → Es.Ev} {g : Nat → Nat} (h : SE w0 b o n E g w) (k : Below w.heap.size w w') : SE w0 b o n E g w' :=
  ⟨fun j hj => (h.row j hj).block (k.block b h.lt), gbelowE h.gr k, h.val, Nat.lt_of_lt_of_le h.lt k.size⟩
theorem SE.congr {w0 w : World} {b o n : Nat} {E : Nat → Es.Ev} {g h : Nat → Nat} (H : SE w0 b o n E g w) (e : ∀ x, h x = g x) : SE w0 b o n E h w := ⟨fun k hk => by rw [e k]; exact H.row k hk, H.gr, fun k hk => by rw [e k]; exact H.val k hk, H.lt⟩
theorem SE.swap {w0 w : World} {b o n : Nat} {E : Nat → Es.Ev} {g h : Nat → Nat} (H : SE w0 b o n E g w) (i j : Nat) (hi : i < n) (hj : j < n) (hne : i ≠ j) (hh : ∀ x, h x = g (St.swI i j x)) :
    SE w0 b o n E h ((((((w.setCell ⟨b, o + i * 3, none⟩ (.int .i64 (E (g j)).a)).setCell ⟨b, o + i * 3 + 1, none⟩ (.int .i64 (E (g j)).d)).setCell ⟨b, o + i * 3 + 2, none⟩ (.string (E (g j)).s)).setCell ⟨b, o + j * 3, none⟩ (.int .i64 (E (g i)).a)).setCell ⟨b, o + j * 3 + 1, none⟩ (.int .i64 (E (g i)).d)).setCell ⟨b, o + j * 3 + 2, none⟩ (.string (E (g i)).s)).drew := by
  refine SE.drewN (d := 1) ⟨fun k hk => ?_, gsetE (gsetE (gsetE (gsetE (gsetE (gsetE H.gr))))), fun k hk => by rw [hh k]; exact H.val _ (by have := St.swI_spec i j k; omega), by simpa using H.lt⟩
  show Ev3 (put3 (put3 w b (o + i * 3) (E (g j))) b (o + j * 3) (E (g i))) b (o + k * 3) (E (h k))
  have hs := St.swI_spec i j k
  rw [hh k]
  by_cases h1 : k = j
  · rw [h1, show St.swI i j j = i by have := St.swI_spec i j j; omega]
    exact put3_same (put3_other (H.row j hj) (by omega))
  · by_cases h2 : k = i
    · rw [h2, show St.swI i j i = j by have := St.swI_spec i j i; omega]
      exact put3_other (put3_same (H.row i hi)) (by omega)
    · rw [show St.swI i j k = k by omega]
      exact put3_other (put3_other (H.row k hk) (by omega)) (by omega)
theorem cellsE {w w' : World} {b p q : Nat} {x y : Es.Ev} (k : Below w.heap.size w w') (hlt : b < w.heap.size) (h1 : w.cell? ⟨b, p, none⟩ = some (.int .i64 x.a)) (h2 : w.cell? ⟨b, p + 1, none⟩ = some (.int .i64 x.d)) (h3 : w.cell? ⟨b, p + 2, none⟩ = some (.string x.s)) (h4 : w.cell? ⟨b, q, none⟩ = some (.int .i64 y.a)) (h5 : w.cell? ⟨b, q + 1, none⟩ = some (.int .i64 y.d)) (h6 : w.cell? ⟨b, q + 2, none⟩ = some (.string y.s)) :
    w'.cell? ⟨b, p, none⟩ = some (.int .i64 x.a) ∧ w'.cell? ⟨b, p + 1, none⟩ = some (.int .i64 x.d) ∧ w'.cell? ⟨b, p + 2, none⟩ = some (.string x.s) ∧ w'.cell? ⟨b, q, none⟩ = some (.int .i64 y.a) ∧ w'.cell? ⟨b, q + 1, none⟩ = some (.int .i64 y.d) ∧ w'.cell? ⟨b, q + 2, none⟩ = some (.string y.s) :=
  ⟨(k.cell (p := ⟨b, p, none⟩) hlt).trans h1, (k.cell (p := ⟨b, p + 1, none⟩) hlt).trans h2, (k.cell (p := ⟨b, p + 2, none⟩) hlt).trans h3, (k.cell (p := ⟨b, q, none⟩) hlt).trans h4, (k.cell (p := ⟨b, q + 1, none⟩) hlt).trans h5, (k.cell (p := ⟨b, q + 2, none⟩) hlt).trans h6⟩

abbrev ltE (cf : Nat → Nat → Int) (x y : Nat) : Prop := cf x y < 0

end Go.Proofs.Ytgkagigagcamoaa
