/-
Several texts of this proof, one behind the other.
-/
import Derived.Test.YtapjodbaaejldaaSeg38
import Derived.Test.YtapjodbaaejldaaCodeS
import Derived.Test.YtapjodbaaejldaaMathAll
import Derived.Test.YtapjodbaaejldaaBase
import Derived.ArgAppend

/-
The contracts of tree.Check, tree.Cost and tree.Make. (Walked of a stand-in: to be held against the code that lands.)
-/
namespace Go.Proofs.Ytapjodbaaejldaa
open Go.RowKit

theorem tcheck_any {A : Option Addr} {n c : Nat} {g : Nat → Int} (w : World) (h : IRow w A n g) :
    Calls Try.prog 108 #[.slice A n c] w fun e w' => e = .returned (.int .i64 (Hm.wErr g n)) ∧ w = w' := by
  by_cases hn : 12 < n
  · have e : Hm.wErr g n = 2 := by unfold Hm.wErr; rw [if_pos hn]
    rw [e]
    have h1 : (12 : Int) < (n : Int) := by omega
    clear e h
    go_enter Try.func108, Try.ntmps108
    go_wp2
    go_ret
    exact ⟨rfl, rfl⟩
  · have h1 : decide ((12 : Int) < (n : Int)) = false := decide_eq_false (by omega)
    have HE : Hid (Hm.wErr g n = Hm.wnE g n) := by show _ = _; unfold Hm.wErr; rw [if_neg hn]
    have H := hid h
    clear h
    go_enter Try.func108, Try.ntmps108
    go_wp2
    go_loopw [10] (fun y wr => ∃ i : Nat, i ≤ n ∧ y = .int .i64 (i : Int) ∧ Hid (∀ j, j < i → ¬ Hm.Off1 (g j)) ∧ w = wr) (fun y _ => n - (intOf y).toNat)
    case atStart => exact ⟨0, by omega, rfl, fun j hj => by omega, rfl⟩
    case round =>
      obtain ⟨i, hi, rfl, HI, rfl⟩ := hrel
      by_cases hlt : i < n
      · have hlt' : (i : Int) < (n : Int) := by omega
        obtain ⟨b, o, rfl, _, hc⟩ := H.out i hlt
        have HB : Hid (Hm.Off1 (g i) → Hm.wErr g n = 1) := fun hx => by rw [HE.out]; exact Hm.wnE_one hlt hx
        have HN : Hid (¬ Hm.Off1 (g i) → ∀ j, j < i + 1 → ¬ Hm.Off1 (g j)) := by
          intro hx j hj
          by_cases e : j = i
          · subst e; exact hx
          · exact HI.out j (by omega)
        clear HI
        generalize g i = x at hc HB HN
        by_cases h2 : x < 1
        · have HR := hid (HB.out (.inl h2))
          clear HB HN
          go_wp2
          go_ret
          rw [HR.out]
          exact ⟨rfl, rfl⟩
        · have h2' : decide (x < 1) = false := decide_eq_false h2
          by_cases h3 : 10000 < x
          · have HR := hid (HB.out (.inr h3))
            clear HB HN
            go_wp2
            go_ret
            rw [HR.out]
            exact ⟨rfl, rfl⟩
          · have h3' : decide (10000 < x) = false := decide_eq_false h3
            have HR := hid (HN.out fun hx => hx.elim h2 h3)
            clear HB HN
            go_wp2
            go_roundw
            case measure => simp [intOf]; omega
            case rel => exact ⟨i + 1, by omega, by go_num, HR, by trivial⟩
      · have hdl : decide ((i : Int) < (n : Int)) = false := decide_eq_false (by omega)
        have HR : Hid (Hm.wErr g n = 0) := by
          show _ = _
          rw [HE.out, Hm.wnE_zero]
          exact fun j hj => HI.out j (by omega)
        go_wp2
        go_ret
        rw [HR.out]
        exact ⟨rfl, rfl⟩
theorem TMakePost.no {g : Nat → Int} {n : Nat} {w w' : World} {E : Int} (e : E = Hm.wErr g n) (h : E ≠ 0) (hb : Below w.heap.size w w') : TMakePost g n w (.returned (.tuple #[.slice none 0 0, .int .i64 E])) w' :=
  ⟨⟨none, 0, 0, by rw [e], Nat.le_refl _, fun k hk => by omega, fun _ => rfl, fun h2 => absurd (e.trans h2) h⟩, hb⟩
theorem TMakePost.ok {g : Nat → Int} {n c : Nat} {A : Option Addr} {w w' : World} (h : Hm.wErr g n = 0) (hc : n ≤ c) (hr : SRow w' A n (fun j => mkS (Cm.cw (lensF g n) n j))) (hb : Below w.heap.size w w') : TMakePost g n w (.returned (.tuple #[.slice A n c, .int .i64 0])) w' :=
  ⟨⟨A, n, c, by rw [h], hc, hr, fun h2 => absurd h h2, fun _ => rfl⟩, hb⟩
theorem lens_make {g : Nat → Int} {n : Nat} (h : Hm.wErr g n = 0) : mErr (fun k => ((lensF g n k : Nat) : Int)) n = 0 := by
  unfold mErr
  have h1 := lens_err h
  have h2 := (lensF_opt h).fit
  rw [if_neg (by simpa using h1), lens_ln, if_neg (by omega)]
/-- Over the contract of tree.Lens. -/
theorem tmake_any {A : Option Addr} {n c : Nat} {g : Nat → Int} (w : World) (hLens : Calls Try.prog 74 #[.slice A n c] w (LensPost g n w)) :
    Calls Try.prog 36 #[.slice A n c] w (TMakePost g n w) := by
  go_enter Try.func36, Try.ntmps36
  go_wp2_with fail
  with_reducible refine hLens.mono ?_
  rintro e w1 ⟨⟨A1, m1, c1, rfl, hc1, hr1, z1, f1⟩, hb1⟩
  clear hLens
  by_cases hE : Hm.wErr g n = 0
  · obtain rfl : m1 = n := f1 hE
    have hM := make_any (c := c1) w1 hr1
    have HM := hid (lens_make hE)
    have HE := hid hE
    rw [hE]
    clear z1 f1 hr1 hE
    go_wp2_with fail
    with_reducible refine hM.mono ?_
    rintro e w2 ⟨⟨A2, m2, c2, rfl, hc2, hr2, _, f2⟩, hb2⟩
    obtain rfl : m2 = m1 := f2 HM.out
    rw [HM.out]
    rw [lens_ln] at hr2
    have HR := hid hr2
    clear hM hr2 f2
    go_wp2
    go_ret2
    exact TMakePost.ok HE.out hc2 HR.out (bl_then hb1 hb2)
  · have hE' : (Hm.wErr g n != 0) = true := bne_iff_ne.2 hE
    obtain ⟨x, hx⟩ : ∃ x, x = Hm.wErr g n := ⟨_, rfl⟩
    have HX := hid hx
    rw [← hx] at hE hE' ⊢
    clear z1 f1 hr1 hx
    go_wp2
    go_ret2
    exact TMakePost.no HX.out hE hb1
end Go.Proofs.Ytapjodbaaejldaa


/-
Slices of tree.branch in memory: two cells each, a weight and a slice of leaves.
-/
namespace Go.Proofs.Ytapjodbaaejldaa
open Go.RowKit

/-- A branch: its weight, its slice, what the slice reads. -/
abbrev Br := Nat × Value × List Nat
def brC (d : Br) : List Value := [.int .i64 (d.1 : Int), d.2.1]
abbrev brV (d : Br) : Value := .agg #[.int .i64 (d.1 : Int), d.2.1]
/-- Block b holds from off on the branches D, and has room for cap. -/
structure QB (w : World) (b off cap : Nat) (D : List Br) : Prop where
  lt : b < w.heap.size
  le : D.length ≤ cap
  at_ : ∀ k d, D[k]? = some d → w.cell? ⟨b, off + k * 2, none⟩ = some (.int .i64 (d.1 : Int)) ∧ w.cell? ⟨b, off + k * 2 + 1, none⟩ = some d.2.1
  room : ∀ j, j < cap * 2 → (w.cell? ⟨b, off + j, none⟩).isSome = true ∧ w.frozen? ⟨b, off + j, none⟩ = false
theorem QB.keep {w w' : World} {b off cap : Nat} {D : List Br} (h : QB w b off cap D) (hs : w.heap.size ≤ w'.heap.size) (e : w'.heap[b]? = w.heap[b]?) : QB w' b off cap D := by
  have ec : ∀ a : Addr, a.block = b → w'.cell? a = w.cell? a := fun a ha => World.cell?_of_block (by rw [ha]; exact e)
  have ef : ∀ a : Addr, a.block = b → w'.frozen? a = w.frozen? a := fun a ha => World.frozen?_of_block (by rw [ha]; exact e)
  refine ⟨Nat.lt_of_lt_of_le h.lt hs, h.le, fun k d hd => ?_, fun j hj => ?_⟩
  · rw [ec _ rfl, ec _ rfl]; exact h.at_ k d hd
  · rw [ec _ rfl, ef _ rfl]; exact h.room j hj
theorem QB.below {w w' : World} {b off cap : Nat} {D : List Br} (h : QB w b off cap D) (hb : Below w.heap.size w w') : QB w' b off cap D := h.keep hb.size (hb.block b h.lt)
theorem QB.drewN {w : World} {b off cap : Nat} {D : List Br} (h : QB w b off cap D) (d : Nat) : QB (w.drewN d) b off cap D := ⟨h.lt, h.le, h.at_, h.room⟩
/-- One cell is written. -/
theorem room_set {w : World} {b off m i : Nat} {v : Value} (h : ∀ j, j < m → (w.cell? ⟨b, off + j, none⟩).isSome = true ∧ w.frozen? ⟨b, off + j, none⟩ = false) (hi : i < m) :
    ∀ j, j < m → ((w.setCell ⟨b, off + i, none⟩ v).cell? ⟨b, off + j, none⟩).isSome = true ∧ (w.setCell ⟨b, off + i, none⟩ v).frozen? ⟨b, off + j, none⟩ = false := by
  intro j hj
  have hf : (w.setCell ⟨b, off + i, none⟩ v).frozen? ⟨b, off + j, none⟩ = w.frozen? ⟨b, off + j, none⟩ := by simp
  refine ⟨?_, hf.trans (h j hj).2⟩
  by_cases e : j = i
  · rw [e]
    obtain ⟨u, hu⟩ := Option.isSome_iff_exists.1 (h i hi).1
    rw [World.cell?_setCell_same _ _ _ hu]
    rfl
  · rw [World.cell?_setCell_other _ _ _ _ (by intro h'; injection h' with _ h''; omega)]
    exact (h j hj).1
/-- One branch is written: at k, at most behind the last. -/
theorem QB.put {w : World} {b off cap : Nat} {D D' : List Br} (h : QB w b off cap D) (k : Nat) (d : Br) (hk : k < cap) (hl : D'.length ≤ cap) (hD : ∀ j, D'[j]? = if j = k then some d else D[j]?) :
    QB ((w.setCell ⟨b, off + k * 2, none⟩ (.int .i64 (d.1 : Int))).setCell ⟨b, off + k * 2 + 1, none⟩ d.2.1) b off cap D' := by
  have r1 := room_set (v := .int .i64 (d.1 : Int)) h.room (i := k * 2) (by omega)
  have r2 := room_set (v := d.2.1) r1 (i := k * 2 + 1) (by omega)
  obtain ⟨u1, hu1⟩ := Option.isSome_iff_exists.1 (h.room (k * 2) (by omega)).1
  obtain ⟨u2, hu2⟩ := Option.isSome_iff_exists.1 (r1 (k * 2 + 1) (by omega)).1
  rw [show off + (k * 2 + 1) = off + k * 2 + 1 by omega] at r2 hu2
  refine ⟨by simpa using h.lt, hl, fun j x hx => ?_, r2⟩
  rw [hD j] at hx
  by_cases e : j = k
  · rw [if_pos e] at hx
    injection hx with hx
    subst hx; subst e
    refine ⟨?_, World.cell?_setCell_same _ _ _ hu2⟩
    rw [World.cell?_setCell_other _ _ _ _ (by intro h'; injection h' with _ h''; omega)]
    exact World.cell?_setCell_same _ _ _ hu1
  · rw [if_neg e] at hx
    rw [World.cell?_setCell_other _ _ _ _ (by intro h'; injection h' with _ h''; omega), World.cell?_setCell_other _ _ _ _ (by intro h'; injection h' with _ h''; omega), World.cell?_setCell_other _ _ _ _ (by intro h'; injection h' with _ h''; omega), World.cell?_setCell_other _ _ _ _ (by intro h'; injection h' with _ h''; omega)]
    exact h.at_ j x hx
/-- Two neighbours exchanged. -/
theorem QB.swap {w : World} {b off cap : Nat} {P Q : List Br} {x y : Br} {k j : Nat} (h : QB w b off cap (P ++ y :: x :: Q)) (hk : P.length = k) (hj : j = k + 1) :
    QB ((((w.setCell ⟨b, off + j * 2, none⟩ (.int .i64 (y.1 : Int))).setCell ⟨b, off + j * 2 + 1, none⟩ y.2.1).setCell ⟨b, off + k * 2, none⟩ (.int .i64 (x.1 : Int))).setCell ⟨b, off + k * 2 + 1, none⟩ x.2.1) b off cap (P ++ x :: y :: Q) := by
  subst hj
  have hl := h.le
  rw [List.length_append, List.length_cons, List.length_cons] at hl
  refine QB.put (QB.put h (D' := P ++ y :: y :: Q) (k + 1) y (by omega) (by simp; omega) fun i => ?_) k x (by omega) (by simp; omega) fun i => ?_
  · by_cases e : i = k + 1
    · rw [if_pos e, e, ← hk, List.getElem?_append_right (by omega), show P.length + 1 - P.length = 1 by omega]; rfl
    · rw [if_neg e]
      rcases Nat.lt_or_ge i P.length with h1 | h1
      · rw [List.getElem?_append_left h1, List.getElem?_append_left h1]
      · rw [List.getElem?_append_right h1, List.getElem?_append_right h1]
        rcases Nat.lt_or_ge i (k + 1) with h2 | h2
        · rw [show i - P.length = 0 by omega]; rfl
        · obtain ⟨z, hz⟩ : ∃ z, i - P.length = z + 2 := ⟨i - P.length - 2, by omega⟩
          rw [hz]; rfl
  · by_cases e : i = k
    · rw [if_pos e, e, ← hk, List.getElem?_append_right (by omega), Nat.sub_self]; rfl
    · rw [if_neg e]
      rcases Nat.lt_or_ge i P.length with h1 | h1
      · rw [List.getElem?_append_left h1, List.getElem?_append_left h1]
      · rw [List.getElem?_append_right h1, List.getElem?_append_right h1]
        obtain ⟨z, hz⟩ : ∃ z, i - P.length = z + 1 := ⟨i - P.length - 1, by omega⟩
        rw [hz]; rfl
theorem QB.mid {w : World} {b off cap : Nat} {P Q : List Br} {x : Br} {k : Nat} (h : QB w b off cap (P ++ x :: Q)) (hk : P.length = k) : w.cell? ⟨b, off + k * 2, none⟩ = some (.int .i64 (x.1 : Int)) ∧ w.cell? ⟨b, off + k * 2 + 1, none⟩ = some x.2.1 := by
  refine h.at_ k x ?_
  rw [← hk, List.getElem?_append_right (Nat.le_refl _), Nat.sub_self]
  rfl
theorem QB.frozen {w : World} {b off cap : Nat} {D : List Br} (h : QB w b off cap D) {k : Nat} (hk : k < D.length) : w.frozen? ⟨b, off + k * 2, none⟩ = false ∧ w.frozen? ⟨b, off + k * 2 + 1, none⟩ = false := by
  have := h.le
  refine ⟨(h.room (k * 2) (by omega)).2, ?_⟩
  have := (h.room (k * 2 + 1) (by omega)).2
  rwa [show off + (k * 2 + 1) = off + k * 2 + 1 by omega] at this
/-- The first two taken off. -/
theorem QB.tail {w : World} {b off cap : Nat} {x y : Br} {R : List Br} (h : QB w b off cap (x :: y :: R)) : QB w b (if cap = 2 then off else off + 4) (cap - 2) R := by
  have hl := h.le
  rw [List.length_cons, List.length_cons] at hl
  by_cases hc : cap = 2
  · rw [if_pos hc]
    have : R = [] := List.eq_nil_of_length_eq_zero (by omega)
    subst this
    exact ⟨h.lt, Nat.zero_le _, fun k d hd => (by simp at hd), fun j hj => by omega⟩
  · rw [if_neg hc]
    refine ⟨h.lt, by omega, fun k d hd => ?_, fun j hj => ?_⟩
    · have := h.at_ (k + 2) d hd
      rwa [show off + (k + 2) * 2 = off + 4 + k * 2 by omega] at this
    · have := h.room (j + 4) (by omega)
      rwa [show off + (j + 4) = off + 4 + j by omega] at this
/-- v is a slice that reads L. -/
def Leaf (w : World) (v : Value) (L : List Nat) : Prop :=
  ∃ b o c, v = .slice (some ⟨b, o, none⟩) L.length c ∧ L.length ≤ c ∧ b < w.heap.size ∧ ∀ (j x : Nat), L[j]? = some x → w.cell? ⟨b, o + j, none⟩ = some (.int .i64 (x : Int))
theorem Leaf.keep {w w' : World} {v : Value} {L : List Nat} (h : Leaf w v L) (hs : w.heap.size ≤ w'.heap.size) (hb : ∀ k, v.ownBlock = some k → w'.heap[k]? = w.heap[k]?) : Leaf w' v L := by
  obtain ⟨b, o, c, rfl, h1, h2, h3⟩ := h
  refine ⟨b, o, c, rfl, h1, Nat.lt_of_lt_of_le h2 hs, fun j x hx => ?_⟩
  rw [World.cell?_of_block (w := w) (w' := w') (a := ⟨b, o + j, none⟩) (hb b rfl)]
  exact h3 j x hx
theorem Leaf.lt {w : World} {v : Value} {L : List Nat} (h : Leaf w v L) : ∀ k, v.ownBlock = some k → k < w.heap.size := by
  intro k hk
  obtain ⟨b, o, c, rfl, h1, h2, h3⟩ := h
  injection hk with hk
  have : b = k := hk
  omega
theorem Leaf.below {w w' : World} {v : Value} {L : List Nat} (h : Leaf w v L) (hb : Below w.heap.size w w') : Leaf w' v L := h.keep hb.size fun k hk => hb.block k (h.lt k hk)
theorem Leaf.grown {w w' : World} {v : Value} {L : List Nat} {b : Nat} (h : Leaf w v L) (hg : w.grownBy w' (some b)) (hn : v.ownBlock ≠ some b) : Leaf w' v L :=
  h.keep hg.size fun k hk => hg.block k (h.lt k hk) fun e => hn (by rw [hk, e])
end Go.Proofs.Ytapjodbaaejldaa

