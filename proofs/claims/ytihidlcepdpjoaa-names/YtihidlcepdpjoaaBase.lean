/-
Words of our own for memory (a slice that reads as numbers; what stays as it was), and small facts. Nothing is claimed here.
-/
import Derived.Test.YtihidlcepdpjoaaChecked
import Derived.WalkKit
import Derived.BigQuiet
import Derived.Deep.QuietTactic
import Derived.Deep.OwnRows
import Derived.Deep.Draws
import Derived.Great.BuildSlice
import Derived.Laws.Rows
namespace Go.Proofs.Ytihidlcepdpjoaa
open Go.RowKit

theorem hid {p : Prop} (h : p) : Hid p := h

theorem ret_bool {a b : Bool} (h : a = b) : Ending.returned (.bool a) = .returned (.bool b) := by rw [h]
theorem ret_int {k : IntKind} {a b : Int} (h : a = b) : Ending.returned (.int k a) = .returned (.int k b) := by rw [h]

/-- The first n cells at A hold the numbers g 0, g 1, ..; they lie in blocks that are there. -/
def IRow (w : World) (A : Option Addr) (n : Nat) (g : Nat → Int) : Prop :=
  ∀ k, k < n → ∃ b o, A = some ⟨b, o, none⟩ ∧ b < w.heap.size ∧ w.cell? ⟨b, o + k, none⟩ = some (.int .i64 (g k))

theorem IRow.at_ {w : World} {A : Option Addr} {n : Nat} {g : Nat → Int} (h : IRow w A n g) {k : Nat} (hk : k < n) :
    ∃ b o, A = some ⟨b, o, none⟩ ∧ b < w.heap.size ∧ w.cell? ⟨b, o + k, none⟩ = some (.int .i64 (g k)) := h k hk
theorem IRow.keep {w w' : World} {A : Option Addr} {n : Nat} {g : Nat → Int} (h : IRow w A n g) (hb : Below w.heap.size w w') : IRow w' A n g := by
  intro k hk
  obtain ⟨b, o, rfl, hlt, hc⟩ := h k hk
  exact ⟨b, o, rfl, Nat.lt_of_lt_of_le hlt hb.size, (hb.cell (p := ⟨b, o + k, none⟩) hlt).trans hc⟩
theorem IRow.drewN {w : World} {A : Option Addr} {n : Nat} {g : Nat → Int} (h : IRow w A n g) (d : Nat) : IRow (w.drewN d) A n g := h
theorem IRow.congr {w : World} {A : Option Addr} {n : Nat} {g g' : Nat → Int} (h : IRow w A n g) (e : ∀ k, k < n → g k = g' k) : IRow w A n g' := by
  intro k hk
  obtain ⟨b, o, h1, h2, h3⟩ := h k hk
  exact ⟨b, o, h1, h2, by rw [h3, e k hk]⟩
theorem IRow.none_ (w : World) (A : Option Addr) (g : Nat → Int) : IRow w A 0 g := fun k hk => by omega

theorem IRow.alloc {w : World} {A : Option Addr} {n : Nat} {g : Nat → Int} (h : IRow w A n g) (o : Obj) : IRow (w.alloc o) A n g :=
  h.keep ((Below.refl _ _).alloc (Nat.le_refl _) o)
/-- A new block that holds the numbers l. -/
theorem IRow.lit (w : World) (l : List Int) (t : TypeId) (n N : Nat) (hN : w.heap.size = N) (hn : n = l.length) : IRow (w.alloc (.cells (l.map (Value.int .i64)).toArray t)) (some ⟨N, 0, none⟩) n (fun k => l.getD k 0) := by
  subst hN
  intro k hk
  refine ⟨w.heap.size, 0, rfl, by simp, ?_⟩
  rw [cell_of_row _ _ _ _ _ _ (heap_alloc_new w _)]
  have hk' : k < l.length := by omega
  simp [List.getElem?_eq_getElem hk', List.getD_eq_getElem?_getD]

theorem bl_drewN {B : Nat} {a w : World} (h : Below B a w) (n : Nat) : Below B a (w.drewN n) := ⟨h.os, h.tape, h.output, h.size, h.block⟩
theorem bl_of_drewN {B : Nat} {a w : World} {n : Nat} (h : Below B (a.drewN n) w) : Below B a w := ⟨h.os, h.tape, h.output, h.size, h.block⟩

/-- Two rows of numbers are the same. -/
def eqB (n m : Nat) (g h : Nat → Int) : Bool := decide (n = m ∧ ∀ k, k < n → g k = h k)
theorem eqB_true {n m : Nat} {g h : Nat → Int} : eqB n m g h = true ↔ (n = m ∧ ∀ k, k < n → g k = h k) := by unfold eqB; exact decide_eq_true_iff

/-- The number of draws is of no matter. -/
def Drew (w w' : World) : Prop := ∃ k, w' = w.drewN k
theorem Drew.more {w w1 : World} (h : Drew w w1) (n : Nat) : Drew w (w1.drewN n) := by
  obtain ⟨k, rfl⟩ := h
  exact ⟨k + n, World.drewN_drewN _ _ _⟩
theorem Drew.is_ (w : World) (n : Nat) : Drew w (w.drewN n) := ⟨n, rfl⟩
theorem Drew.trans {a b c : World} (h : Drew a b) (k : Drew b c) : Drew a c := by
  obtain ⟨n, rfl⟩ := k
  exact h.more n
theorem Drew.refl (w : World) : Drew w w := ⟨0, rfl⟩
theorem Drew.below {w w' : World} (h : Drew w w') (B : Nat) : Below B w w' := by
  obtain ⟨k, rfl⟩ := h
  exact bl_drewN (Below.refl B w) k
end Go.Proofs.Ytihidlcepdpjoaa
