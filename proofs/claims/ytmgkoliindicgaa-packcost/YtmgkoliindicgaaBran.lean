
/-
Slices of tree.branch in memory: two cells each, a weight and a slice of leaves.
-/
import Derived.Test.YtmgkoliindicgaaMathAll
import Derived.Test.YtmgkoliindicgaaBase
import Derived.ArgAppend
namespace Go.Proofs.Ytmgkoliindicgaa
open Go.RowKit

/-- A branch: its weight, its slice, what the slice reads. -/
abbrev Br := Nat × Value × List Nat
def brC (d : Br) : List Value := [.int .i64 (d.1 : Int), d.2.1]
abbrev brV (d : Br) : Value := .agg #[.int .i64 (d.1 : Int), d.2.1]
/-- Block b holds from off on the branches D, and has room for cap. -/
structure QB (w : World) (b off cap : Nat) (D : List Br) : Prop where
  lt : b < w.heap.size
  le : D.length ≤ cap
  at_ : ∀ k d, D[k]? = some d → w.cell? ⟨b, off + k * 2, none⟩ = some (.int .i64 (d.1 : Int)) ∧ w.cell? ⟨b, off + k * 2 + 1, none⟩ = some d.2.1
  room : ∀ j, j < cap * 2 → (w.cell? ⟨b, off + j, none⟩).isSome = true ∧ w.frozen? ⟨b, off + j, none⟩ = false
theorem QB.keep {w w' : World} {b off cap : Nat} {D : List Br} (h : QB w b off cap D) (hs : w.heap.size ≤ w'.heap.size) (e : w'.heap[b]? = w.heap[b]?) : QB w' b off cap D := by
  have ec : ∀ a : Addr, a.block = b → w'.cell? a = w.cell? a := fun a ha => World.cell?_of_block (by rw [ha]; exact e)
  have ef : ∀ a : Addr, a.block = b → w'.frozen? a = w.frozen? a := fun a ha => World.frozen?_of_block (by rw [ha]; exact e)
  refine ⟨Nat.lt_of_lt_of_le h.lt hs, h.le, fun k d hd => ?_, fun j hj => ?_⟩
  · rw [ec _ rfl, ec _ rfl]; exact h.at_ k d hd
  · rw [ec _ rfl, ef _ rfl]; exact h.room j hj
theorem QB.below {w w' : World} {b off cap : Nat} {D : List Br} (h : QB w b off cap D) (hb : Below w.heap.size w w') : QB w' b off cap D := h.keep hb.size (hb.block b h.lt)
theorem QB.drewN {w : World} {b off cap : Nat} {D : List Br} (h : QB w b off cap D) (d : Nat) : QB (w.drewN d) b off cap D := ⟨h.lt, h.le, h.at_, h.room⟩
/-- One cell is written. -/
theorem room_set {w : World} {b off m i : Nat} {v : Value} (h : ∀ j, j < m → (w.cell? ⟨b, off + j, none⟩).isSome = true ∧ w.frozen? ⟨b, off + j, none⟩ = false) (hi : i < m) :
    ∀ j, j < m → ((w.setCell ⟨b, off + i, none⟩ v).cell? ⟨b, off + j, none⟩).isSome = true ∧ (w.setCell ⟨b, off + i, none⟩ v).frozen? ⟨b, off + j, none⟩ = false := by
  intro j hj
  have hf : (w.setCell ⟨b, off + i, none⟩ v).frozen? ⟨b, off + j, none⟩ = w.frozen? ⟨b, off + j, none⟩ := by simp
  refine ⟨?_, hf.trans (h j hj).2⟩
  by_cases e : j = i
  · rw [e]
    obtain ⟨u, hu⟩ := Option.isSome_iff_exists.1 (h i hi).1
    rw [World.cell?_setCell_same _ _ _ hu]
    rfl
  · rw [World.cell?_setCell_other _ _ _ _ (by intro h'; injection h' with _ h''; omega)]
    exact (h j hj).1
/-- One branch is written: at k, at most behind the last. -/
theorem QB.put {w : World} {b off cap : Nat} {D D' : List Br} (h : QB w b off cap D) (k : Nat) (d : Br) (hk : k < cap) (hl : D'.length ≤ cap) (hD : ∀ j, D'[j]? = if j = k then some d else D[j]?) :
    QB ((w.setCell ⟨b, off + k * 2, none⟩ (.int .i64 (d.1 : Int))).setCell ⟨b, off + k * 2 + 1, none⟩ d.2.1) b off cap D' := by
  have r1 := room_set (v := .int .i64 (d.1 : Int)) h.room (i := k * 2) (by omega)
  have r2 := room_set (v := d.2.1) r1 (i := k * 2 + 1) (by omega)
  obtain ⟨u1, hu1⟩ := Option.isSome_iff_exists.1 (h.room (k * 2) (by omega)).1
  obtain ⟨u2, hu2⟩ := Option.isSome_iff_exists.1 (r1 (k * 2 + 1) (by omega)).1
  rw [show off + (k * 2 + 1) = off + k * 2 + 1 by omega] at r2 hu2
  refine ⟨by simpa using h.lt, hl, fun j x hx => ?_, r2⟩
  rw [hD j] at hx
  by_cases e : j = k
  · rw [if_pos e] at hx
    injection hx with hx
    subst hx; subst e
    refine ⟨?_, World.cell?_setCell_same _ _ _ hu2⟩
    rw [World.cell?_setCell_other _ _ _ _ (by intro h'; injection h' with _ h''; omega)]
    exact World.cell?_setCell_same _ _ _ hu1
  · rw [if_neg e] at hx
    rw [World.cell?_setCell_other _ _ _ _ (by intro h'; injection h' with _ h''; omega), World.cell?_setCell_other _ _ _ _ (by intro h'; injection h' with _ h''; omega), World.cell?_setCell_other _ _ _ _ (by intro h'; injection h' with _ h''; omega), World.cell?_setCell_other _ _ _ _ (by intro h'; injection h' with _ h''; omega)]
    exact h.at_ j x hx
/-- Two neighbours exchanged. -/
theorem QB.swap {w : World} {b off cap : Nat} {P Q : List Br} {x y : Br} {k j : Nat} (h : QB w b off cap (P ++ y :: x :: Q)) (hk : P.length = k) (hj : j = k + 1) :
    QB ((((w.setCell ⟨b, off + j * 2, none⟩ (.int .i64 (y.1 : Int))).setCell ⟨b, off + j * 2 + 1, none⟩ y.2.1).setCell ⟨b, off + k * 2, none⟩ (.int .i64 (x.1 : Int))).setCell ⟨b, off + k * 2 + 1, none⟩ x.2.1) b off cap (P ++ x :: y :: Q) := by
  subst hj
  have hl := h.le
  rw [List.length_append, List.length_cons, List.length_cons] at hl
  refine QB.put (QB.put h (D' := P ++ y :: y :: Q) (k + 1) y (by omega) (by simp; omega) fun i => ?_) k x (by omega) (by simp; omega) fun i => ?_
  · by_cases e : i = k + 1
    · rw [if_pos e, e, ← hk, List.getElem?_append_right (by omega), show P.length + 1 - P.length = 1 by omega]; rfl
    · rw [if_neg e]
      rcases Nat.lt_or_ge i P.length with h1 | h1
      · rw [List.getElem?_append_left h1, List.getElem?_append_left h1]
      · rw [List.getElem?_append_right h1, List.getElem?_append_right h1]
        rcases Nat.lt_or_ge i (k + 1) with h2 | h2
        · rw [show i - P.length = 0 by omega]; rfl
        · obtain ⟨z, hz⟩ : ∃ z, i - P.length = z + 2 := ⟨i - P.length - 2, by omega⟩
          rw [hz]; rfl
  · by_cases e : i = k
    · rw [if_pos e, e, ← hk, List.getElem?_append_right (by omega), Nat.sub_self]; rfl
    · rw [if_neg e]
      rcases Nat.lt_or_ge i P.length with h1 | h1
      · rw [List.getElem?_append_left h1, List.getElem?_append_left h1]
      · rw [List.getElem?_append_right h1, List.getElem?_append_right h1]
        obtain ⟨z, hz⟩ : ∃ z, i - P.length = z + 1 := ⟨i - P.length - 1, by omega⟩
        rw [hz]; rfl
theorem QB.mid {w : World} {b off cap : Nat} {P Q : List Br} {x : Br} {k : Nat} (h : QB w b off cap (P ++ x :: Q)) (hk : P.length = k) : w.cell? ⟨b, off + k * 2, none⟩ = some (.int .i64 (x.1 : Int)) ∧ w.cell? ⟨b, off + k * 2 + 1, none⟩ = some x.2.1 := by
  refine h.at_ k x ?_
  rw [← hk, List.getElem?_append_right (Nat.le_refl _), Nat.sub_self]
  rfl
theorem QB.frozen {w : World} {b off cap : Nat} {D : List Br} (h : QB w b off cap D) {k : Nat} (hk : k < D.length) : w.frozen? ⟨b, off + k * 2, none⟩ = false ∧ w.frozen? ⟨b, off + k * 2 + 1, none⟩ = false := by
  have := h.le
  refine ⟨(h.room (k * 2) (by omega)).2, ?_⟩
  have := (h.room (k * 2 + 1) (by omega)).2
  rwa [show off + (k * 2 + 1) = off + k * 2 + 1 by omega] at this
/-- The first two taken off. -/
theorem QB.tail {w : World} {b off cap : Nat} {x y : Br} {R : List Br} (h : QB w b off cap (x :: y :: R)) : QB w b (if cap = 2 then off else off + 4) (cap - 2) R := by
  have hl := h.le
  rw [List.length_cons, List.length_cons] at hl
  by_cases hc : cap = 2
  · rw [if_pos hc]
    have : R = [] := List.eq_nil_of_length_eq_zero (by omega)
    subst this
    exact ⟨h.lt, Nat.zero_le _, fun k d hd => (by simp at hd), fun j hj => by omega⟩
  · rw [if_neg hc]
    refine ⟨h.lt, by omega, fun k d hd => ?_, fun j hj => ?_⟩
    · have := h.at_ (k + 2) d hd
      rwa [show off + (k + 2) * 2 = off + 4 + k * 2 by omega] at this
    · have := h.room (j + 4) (by omega)
      rwa [show off + (j + 4) = off + 4 + j by omega] at this
/-- v is a slice that reads L. -/
def Leaf (w : World) (v : Value) (L : List Nat) : Prop :=
  ∃ b o c, v = .slice (some ⟨b, o, none⟩) L.length c ∧ L.length ≤ c ∧ b < w.heap.size ∧ ∀ (j x : Nat), L[j]? = some x → w.cell? ⟨b, o + j, none⟩ = some (.int .i64 (x : Int))
theorem Leaf.keep {w w' : World} {v : Value} {L : List Nat} (h : Leaf w v L) (hs : w.heap.size ≤ w'.heap.size) (hb : ∀ k, v.ownBlock = some k → w'.heap[k]? = w.heap[k]?) : Leaf w' v L := by
  obtain ⟨b, o, c, rfl, h1, h2, h3⟩ := h
  refine ⟨b, o, c, rfl, h1, Nat.lt_of_lt_of_le h2 hs, fun j x hx => ?_⟩
  rw [World.cell?_of_block (w := w) (w' := w') (a := ⟨b, o + j, none⟩) (hb b rfl)]
  exact h3 j x hx
theorem Leaf.lt {w : World} {v : Value} {L : List Nat} (h : Leaf w v L) : ∀ k, v.ownBlock = some k → k < w.heap.size := by
  intro k hk
  obtain ⟨b, o, c, rfl, h1, h2, h3⟩ := h
  injection hk with hk
  have : b = k := hk
  omega
theorem Leaf.below {w w' : World} {v : Value} {L : List Nat} (h : Leaf w v L) (hb : Below w.heap.size w w') : Leaf w' v L := h.keep hb.size fun k hk => hb.block k (h.lt k hk)
theorem Leaf.grown {w w' : World} {v : Value} {L : List Nat} {b : Nat} (h : Leaf w v L) (hg : w.grownBy w' (some b)) (hn : v.ownBlock ≠ some b) : Leaf w' v L :=
  h.keep hg.size fun k hk => hg.block k (h.lt k hk) fun e => hn (by rw [hk, e])
end Go.Proofs.Ytmgkoliindicgaa
