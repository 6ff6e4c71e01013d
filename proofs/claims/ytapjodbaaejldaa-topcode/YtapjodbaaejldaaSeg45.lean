/-
Several texts of this proof, one behind the other.
-/
import Derived.Test.YtapjodbaaejldaaMathAll
import Derived.Test.YtapjodbaaejldaaBase
import Derived.ArgAppend
import Derived.RegionTactic
import Derived.BigRegion
import Derived.Deep.RegionHeld3
import Derived.Lib.AppendZerosOnto
import Derived.Lib.Walk
import Derived.Handy
import Derived.Laws.MakeOwn
import Derived.Deep.LoopGhost
import Derived.Deep.RegionLaw
import Derived.Deep.Cut
import Derived.Deep.CutRange

/-
Slices of tree.branch in memory: two cells each, a weight and a slice of leaves.
-/
namespace Go.Proofs.Ytapjodbaaejldaa
open Go.RowKit

/-- A branch: its weight, its slice, what the slice reads. -/
abbrev Br := Nat × Value × List Nat
def brC (d : Br) : List Value := [.int .i64 (d.1 : Int), d.2.1]
abbrev brV (d : Br) : Value := .agg #[.int .i64 (d.1 : Int), d.2.1]
/-- Block b holds from off on the branches D, and has room for cap. -/
structure QB (w : World) (b off cap : Nat) (D : List Br) : Prop where
  lt : b < w.heap.size
  le : D.length ≤ cap
  at_ : ∀ k d, D[k]? = some d → w.cell? ⟨b, off + k * 2, none⟩ = some (.int .i64 (d.1 : Int)) ∧ w.cell? ⟨b, off + k * 2 + 1, none⟩ = some d.2.1
  room : ∀ j, j < cap * 2 → (w.cell? ⟨b, off + j, none⟩).isSome = true ∧ w.frozen? ⟨b, off + j, none⟩ = false
theorem QB.keep {w w' : World} {b off cap : Nat} {D : List Br} (h : QB w b off cap D) (hs : w.heap.size ≤ w'.heap.size) (e : w'.heap[b]? = w.heap[b]?) : QB w' b off cap D := by
  have ec : ∀ a : Addr, a.block = b → w'.cell? a = w.cell? a := fun a ha => World.cell?_of_block (by rw [ha]; exact e)
  have ef : ∀ a : Addr, a.block = b → w'.frozen? a = w.frozen? a := fun a ha => World.frozen?_of_block (by rw [ha]; exact e)
  refine ⟨Nat.lt_of_lt_of_le h.lt hs, h.le, fun k d hd => ?_, fun j hj => ?_⟩
  · rw [ec _ rfl, ec _ rfl]; exact h.at_ k d hd
  · rw [ec _ rfl, ef _ rfl]; exact h.room j hj
theorem QB.below {w w' : World} {b off cap : Nat} {D : List Br} (h : QB w b off cap D) (hb : Below w.heap.size w w') : QB w' b off cap D := h.keep hb.size (hb.block b h.lt)
theorem QB.drewN {w : World} {b off cap : Nat} {D : List Br} (h : QB w b off cap D) (d : Nat) : QB (w.drewN d) b off cap D := ⟨h.lt, h.le, h.at_, h.room⟩
/-- One cell is written. -/
theorem room_set {w : World} {b off m i : Nat} {v : Value} (h : ∀ j, j < m → (w.cell? ⟨b, off + j, none⟩).isSome = true ∧ w.frozen? ⟨b, off + j, none⟩ = false) (hi : i < m) :
    ∀ j, j < m → ((w.setCell ⟨b, off + i, none⟩ v).cell? ⟨b, off + j, none⟩).isSome = true ∧ (w.setCell ⟨b, off + i, none⟩ v).frozen? ⟨b, off + j, none⟩ = false := by
  intro j hj
  have hf : (w.setCell ⟨b, off + i, none⟩ v).frozen? ⟨b, off + j, none⟩ = w.frozen? ⟨b, off + j, none⟩ := by simp
  refine ⟨?_, hf.trans (h j hj).2⟩
  by_cases e : j = i
  · rw [e]
    obtain ⟨u, hu⟩ := Option.isSome_iff_exists.1 (h i hi).1
    rw [World.cell?_setCell_same _ _ _ hu]
    rfl
  · rw [World.cell?_setCell_other _ _ _ _ (by intro h'; injection h' with _ h''; omega)]
    exact (h j hj).1
/-- One branch is written: at k, at most behind the last. -/
theorem QB.put {w : World} {b off cap : Nat} {D D' : List Br} (h : QB w b off cap D) (k : Nat) (d : Br) (hk : k < cap) (hl : D'.length ≤ cap) (hD : ∀ j, D'[j]? = if j = k then some d else D[j]?) :
    QB ((w.setCell ⟨b, off + k * 2, none⟩ (.int .i64 (d.1 : Int))).setCell ⟨b, off + k * 2 + 1, none⟩ d.2.1) b off cap D' := by
  have r1 := room_set (v := .int .i64 (d.1 : Int)) h.room (i := k * 2) (by omega)
  have r2 := room_set (v := d.2.1) r1 (i := k * 2 + 1) (by omega)
  obtain ⟨u1, hu1⟩ := Option.isSome_iff_exists.1 (h.room (k * 2) (by omega)).1
  obtain ⟨u2, hu2⟩ := Option.isSome_iff_exists.1 (r1 (k * 2 + 1) (by omega)).1
  rw [show off + (k * 2 + 1) = off + k * 2 + 1 by omega] at r2 hu2
  refine ⟨by simpa using h.lt, hl, fun j x hx => ?_, r2⟩
  rw [hD j] at hx
  by_cases e : j = k
  · rw [if_pos e] at hx
    injection hx with hx
    subst hx; subst e
    refine ⟨?_, World.cell?_setCell_same _ _ _ hu2⟩
    rw [World.cell?_setCell_other _ _ _ _ (by intro h'; injection h' with _ h''; omega)]
    exact World.cell?_setCell_same _ _ _ hu1
  · rw [if_neg e] at hx
    rw [World.cell?_setCell_other _ _ _ _ (by intro h'; injection h' with _ h''; omega), World.cell?_setCell_other _ _ _ _ (by intro h'; injection h' with _ h''; omega), World.cell?_setCell_other _ _ _ _ (by intro h'; injection h' with _ h''; omega), World.cell?_setCell_other _ _ _ _ (by intro h'; injection h' with _ h''; omega)]
    exact h.at_ j x hx
/-- Two neighbours exchanged. -/
theorem QB.swap {w : World} {b off cap : Nat} {P Q : List Br} {x y : Br} {k j : Nat} (h : QB w b off cap (P ++ y :: x :: Q)) (hk : P.length = k) (hj : j = k + 1) :
    QB ((((w.setCell ⟨b, off + j * 2, none⟩ (.int .i64 (y.1 : Int))).setCell ⟨b, off + j * 2 + 1, none⟩ y.2.1).setCell ⟨b, off + k * 2, none⟩ (.int .i64 (x.1 : Int))).setCell ⟨b, off + k * 2 + 1, none⟩ x.2.1) b off cap (P ++ x :: y :: Q) := by
  subst hj
  have hl := h.le
  rw [List.length_append, List.length_cons, List.length_cons] at hl
  refine QB.put (QB.put h (D' := P ++ y :: y :: Q) (k + 1) y (by omega) (by simp; omega) fun i => ?_) k x (by omega) (by simp; omega) fun i => ?_
  · by_cases e : i = k + 1
    · rw [if_pos e, e, ← hk, List.getElem?_append_right (by omega), show P.length + 1 - P.length = 1 by omega]; rfl
    · rw [if_neg e]
      rcases Nat.lt_or_ge i P.length with h1 | h1
      · rw [List.getElem?_append_left h1, List.getElem?_append_left h1]
      · rw [List.getElem?_append_right h1, List.getElem?_append_right h1]
        rcases Nat.lt_or_ge i (k + 1) with h2 | h2
        · rw [show i - P.length = 0 by omega]; rfl
        · obtain ⟨z, hz⟩ : ∃ z, i - P.length = z + 2 := ⟨i - P.length - 2, by omega⟩
          rw [hz]; rfl
  · by_cases e : i = k
    · rw [if_pos e, e, ← hk, List.getElem?_append_right (by omega), Nat.sub_self]; rfl
    · rw [if_neg e]
      rcases Nat.lt_or_ge i P.length with h1 | h1
      · rw [List.getElem?_append_left h1, List.getElem?_append_left h1]
      · rw [List.getElem?_append_right h1, List.getElem?_append_right h1]
        obtain ⟨z, hz⟩ : ∃ z, i - P.length = z + 1 := ⟨i - P.length - 1, by omega⟩
        rw [hz]; rfl
theorem QB.mid {w : World} {b off cap : Nat} {P Q : List Br} {x : Br} {k : Nat} (h : QB w b off cap (P ++ x :: Q)) (hk : P.length = k) : w.cell? ⟨b, off + k * 2, none⟩ = some (.int .i64 (x.1 : Int)) ∧ w.cell? ⟨b, off + k * 2 + 1, none⟩ = some x.2.1 := by
  refine h.at_ k x ?_
  rw [← hk, List.getElem?_append_right (Nat.le_refl _), Nat.sub_self]
  rfl
theorem QB.frozen {w : World} {b off cap : Nat} {D : List Br} (h : QB w b off cap D) {k : Nat} (hk : k < D.length) : w.frozen? ⟨b, off + k * 2, none⟩ = false ∧ w.frozen? ⟨b, off + k * 2 + 1, none⟩ = false := by
  have := h.le
  refine ⟨(h.room (k * 2) (by omega)).2, ?_⟩
  have := (h.room (k * 2 + 1) (by omega)).2
  rwa [show off + (k * 2 + 1) = off + k * 2 + 1 by omega] at this
/-- The first two taken off. -/
theorem QB.tail {w : World} {b off cap : Nat} {x y : Br} {R : List Br} (h : QB w b off cap (x :: y :: R)) : QB w b (if cap = 2 then off else off + 4) (cap - 2) R := by
  have hl := h.le
  rw [List.length_cons, List.length_cons] at hl
  by_cases hc : cap = 2
  · rw [if_pos hc]
    have : R = [] := List.eq_nil_of_length_eq_zero (by omega)
    subst this
    exact ⟨h.lt, Nat.zero_le _, fun k d hd => (by simp at hd), fun j hj => by omega⟩
  · rw [if_neg hc]
    refine ⟨h.lt, by omega, fun k d hd => ?_, fun j hj => ?_⟩
    · have := h.at_ (k + 2) d hd
      rwa [show off + (k + 2) * 2 = off + 4 + k * 2 by omega] at this
    · have := h.room (j + 4) (by omega)
      rwa [show off + (j + 4) = off + 4 + j by omega] at this
/-- v is a slice that reads L. -/
def Leaf (w : World) (v : Value) (L : List Nat) : Prop :=
  ∃ b o c, v = .slice (some ⟨b, o, none⟩) L.length c ∧ L.length ≤ c ∧ b < w.heap.size ∧ ∀ (j x : Nat), L[j]? = some x → w.cell? ⟨b, o + j, none⟩ = some (.int .i64 (x : Int))
theorem Leaf.keep {w w' : World} {v : Value} {L : List Nat} (h : Leaf w v L) (hs : w.heap.size ≤ w'.heap.size) (hb : ∀ k, v.ownBlock = some k → w'.heap[k]? = w.heap[k]?) : Leaf w' v L := by
  obtain ⟨b, o, c, rfl, h1, h2, h3⟩ := h
  refine ⟨b, o, c, rfl, h1, Nat.lt_of_lt_of_le h2 hs, fun j x hx => ?_⟩
  rw [World.cell?_of_block (w := w) (w' := w') (a := ⟨b, o + j, none⟩) (hb b rfl)]
  exact h3 j x hx
theorem Leaf.lt {w : World} {v : Value} {L : List Nat} (h : Leaf w v L) : ∀ k, v.ownBlock = some k → k < w.heap.size := by
  intro k hk
  obtain ⟨b, o, c, rfl, h1, h2, h3⟩ := h
  injection hk with hk
  have : b = k := hk
  omega
theorem Leaf.below {w w' : World} {v : Value} {L : List Nat} (h : Leaf w v L) (hb : Below w.heap.size w w') : Leaf w' v L := h.keep hb.size fun k hk => hb.block k (h.lt k hk)
theorem Leaf.grown {w w' : World} {v : Value} {L : List Nat} {b : Nat} (h : Leaf w v L) (hg : w.grownBy w' (some b)) (hn : v.ownBlock ≠ some b) : Leaf w' v L :=
  h.keep hg.size fun k hk => hg.block k (h.lt k hk) fun e => hn (by rw [hk, e])
end Go.Proofs.Ytapjodbaaejldaa


/-
The contract of slices.SortStableFunc at []tree.branch, with tree.depths's closure, for at most 19 branches.
-/
namespace Go.Proofs.Ytapjodbaaejldaa
open Go.RowKit

/-- What the closure asks of a branch. -/
def BrOk (d : Br) : Prop := (∃ A n c, d.2.1 = .slice A n c) ∧ d.1 ≤ 1000000
set_option maxRecDepth 100000 in
theorem cmpB_any (x y : Nat) (A B : Option Addr) (n c m d : Nat) (w : World) (hx : x ≤ 1000000) (hy : y ≤ 1000000) :
    Calls Try.prog 137 #[.agg #[.int .i64 (x : Int), .slice A n c], .agg #[.int .i64 (y : Int), .slice B m d]] w fun e w' => e = .returned (.int .i64 ((x : Int) - (y : Int))) ∧ Below w.heap.size w w' := by
  have hw : IntKind.i64.wrap ((x : Int) - (y : Int)) = (x : Int) - (y : Int) := IntWalk.i64_in _ (by omega)
  have hb := bl_then (bl_new w (.cells #[.int .i64 (x : Int), .slice A n c] 160)) (bl_new _ (.cells #[.int .i64 (y : Int), .slice B m d] 160))
  have HB := hid hb
  clear hb
  go_enter Try.func137, Try.ntmps137
  go_wp2
  go_ret
  exact ⟨rfl, HB.out⟩
theorem gset {w a : World} {g i : Nat} {v : Value} (h : w.grownBy a (some g)) : w.grownBy (a.setCell ⟨g, i, none⟩ v) (some g) :=
  ⟨h.os, h.tape, h.output, by simpa using h.size, fun x hx hne => (Below.heap_setCell a _ v x (fun e => hne (by rw [e]))).trans (h.block x hx hne)⟩
theorem gbelow {w a b : World} {g : Option Nat} (h : w.grownBy a g) (k : Below a.heap.size a b) : w.grownBy b g :=
  ⟨k.os.trans h.os, k.tape.trans h.tape, k.output.trans h.output, Nat.le_trans h.size k.size, fun x hx hne => (k.block x (Nat.lt_of_lt_of_le hx h.size)).trans (h.block x hx hne)⟩
theorem cellsB {w w' : World} {b o1 o2 o3 o4 : Nat} {v1 v2 v3 v4 : Option Value} (k : Below w.heap.size w w') (hlt : b < w.heap.size) (h1 : w.cell? ⟨b, o1, none⟩ = v1) (h2 : w.cell? ⟨b, o2, none⟩ = v2) (h3 : w.cell? ⟨b, o3, none⟩ = v3) (h4 : w.cell? ⟨b, o4, none⟩ = v4) :
    w'.cell? ⟨b, o1, none⟩ = v1 ∧ w'.cell? ⟨b, o2, none⟩ = v2 ∧ w'.cell? ⟨b, o3, none⟩ = v3 ∧ w'.cell? ⟨b, o4, none⟩ = v4 :=
  ⟨(k.cell (p := ⟨b, o1, none⟩) hlt).trans h1, (k.cell (p := ⟨b, o2, none⟩) hlt).trans h2, (k.cell (p := ⟨b, o3, none⟩) hlt).trans h3, (k.cell (p := ⟨b, o4, none⟩) hlt).trans h4⟩
/-- The branches C at their place; nothing else has changed since w0. -/
def SS (w0 : World) (b off cap : Nat) (C : List Br) (w : World) : Prop := QB w b off cap C ∧ w0.grownBy w (some b)
theorem SS.drewN {w0 w : World} {b off cap : Nat} {C : List Br} (h : SS w0 b off cap C w) (d : Nat) : SS w0 b off cap C (w.drewN d) := ⟨h.1.drewN d, ⟨h.2.os, h.2.tape, h.2.output, h.2.size, h.2.block⟩⟩
theorem SS.keep {w0 w w' : World} {b off cap : Nat} {C : List Br} (h : SS w0 b off cap C w) (k : Below w.heap.size w w') : SS w0 b off cap C w' := ⟨h.1.below k, gbelow h.2 k⟩
theorem SS.swap {w0 w : World} {b off cap : Nat} {P Q : List Br} {x y : Br} {k j : Nat} (h : SS w0 b off cap (P ++ y :: x :: Q) w) (hk : P.length = k) (hj : j = k + 1) :
    SS w0 b off cap (P ++ x :: y :: Q) ((((w.setCell ⟨b, off + j * 2, none⟩ (.int .i64 (y.1 : Int))).setCell ⟨b, off + j * 2 + 1, none⟩ y.2.1).setCell ⟨b, off + k * 2, none⟩ (.int .i64 (x.1 : Int))).setCell ⟨b, off + k * 2 + 1, none⟩ x.2.1).drew :=
  SS.drewN ⟨h.1.swap hk hj, gset (gset (gset (gset h.2)))⟩ 1
/-- x is being put into S, and stands at j. -/
structure At (S Q : List Br) (x : Br) (j : Nat) (C : List Br) : Prop where
  is : C = S.take j ++ x :: (S.drop j ++ Q)
  ins : Hm.ins x S = Hm.ins x (S.take j) ++ S.drop j
theorem At.start (S Q : List Br) (x : Br) : At S Q x S.length (S ++ x :: Q) := ⟨by rw [List.take_length, List.drop_length]; rfl, by rw [List.take_length, List.drop_length, List.append_nil]⟩
theorem take_one {S : List Br} {k : Nat} (h : k < S.length) : S.take (k + 1) = S.take k ++ [S[k]] := by rw [List.take_add_one, List.getElem?_eq_getElem h]; rfl
theorem At.look {S Q C : List Br} {x : Br} {j k : Nat} (h : At S Q x j C) (e : j = k + 1) (hk : k < S.length) : ∃ y, y ∈ S ∧ C = S.take k ++ y :: x :: (S.drop j ++ Q) ∧ (x.1 < y.1 → At S Q x k (S.take k ++ x :: y :: (S.drop j ++ Q))) ∧ (¬ x.1 < y.1 → C = Hm.ins x S ++ Q) := by
  subst e
  refine ⟨S[k], List.getElem_mem hk, ?_, fun hx => ⟨?_, ?_⟩, fun hx => ?_⟩
  · rw [h.is, take_one hk, List.append_assoc]
    rfl
  · rw [List.drop_eq_getElem_cons hk]; rfl
  · rw [h.ins, take_one hk, Hm.ins_lt hx, List.drop_eq_getElem_cons hk, List.append_assoc]
    rfl
  · rw [h.ins, take_one hk, Hm.ins_ge hx, h.is, take_one hk]
    simp
theorem At.low {S Q C : List Br} {x : Br} (h : At S Q x 0 C) : C = Hm.ins x S ++ Q := by
  rw [h.ins, List.take_zero, Hm.ins_nil, h.is]
  rfl

set_option maxRecDepth 100000 in
set_option maxHeartbeats 1000000 in
theorem insB_any (w0 : World) (b off cap n : Nat) (D : List Br) (w : World) (hOk : ∀ d ∈ D, BrOk d) (H : SS w0 b off cap D w) (hl : D.length = n) (hn : n ≤ 1000) :
    Calls Try.prog 190 #[.slice (some ⟨b, off, none⟩) n cap, .int .i64 0, .int .i64 (n : Int), .func (.func 137) #[] #[]] w fun e w' => e = .returned (.tuple #[]) ∧ SS w0 b off cap (Hm.isort D) w' := by
  have HH := hid H
  have HO := hid hOk
  have HL := hid hl
  clear H hOk hl
  go_enter Try.func190, Try.ntmps190
  go_wp2
  go_loopw [8] (fun x wr => ∃ i : Nat, x = .int .i64 i ∧ 1 ≤ i ∧ Hid (SS w0 b off cap (Hm.isort (D.take i) ++ D.drop i) wr)) (fun x _ => n - (intOf x).toNat)
  case atStart =>
    refine ⟨1, by go_num, by omega, ?_⟩
    have e : Hm.isort (D.take 1) ++ D.drop 1 = D := by
      match D with
      | [] => rfl
      | x :: R => rfl
    rw [e]
    exact HH
  case round =>
    clear HH
    obtain ⟨i, rfl, hi1, HR⟩ := hrel
    by_cases hlt : i < n
    · have hlt' : (i : Int) < (n : Int) := by omega
      have hiD : i < D.length := by rw [HL.out]; exact hlt
      obtain ⟨x, hx⟩ : ∃ x : Br, x = D[i] := ⟨_, rfl⟩
      obtain ⟨S, hS⟩ : ∃ S : List Br, S = Hm.isort (D.take i) := ⟨_, rfl⟩
      obtain ⟨Q, hQ⟩ : ∃ Q : List Br, Q = D.drop (i + 1) := ⟨_, rfl⟩
      have hSl : S.length = i := by rw [hS, Hm.isort_len, List.length_take]; omega
      have hxo := HO.out x (by rw [hx]; exact List.getElem_mem hiD)
      have HSO : Hid (∀ d ∈ S, BrOk d) := fun d hd => HO.out d (List.mem_of_mem_take (by rw [hS] at hd; exact (Hm.isort_perm _).mem_iff.1 hd))
      have HN : Hid (Hm.ins x S ++ Q = Hm.isort (D.take (i + 1)) ++ D.drop (i + 1)) := by
        show _ = _
        rw [take_one hiD, Hm.isort_snoc, hS, hQ, hx]
      have HS0 : Hid (SS w0 b off cap (S ++ x :: Q) wr) := by
        have := HR.out
        rw [List.drop_eq_getElem_cons hiD, ← hS, ← hx, ← hQ] at this
        exact this
      have HSL := hid hSl
      clear HR hx hS hQ hSl hiD
      obtain ⟨⟨Ax, nx, cx, hxv⟩, hxw⟩ := hxo
      go_wp2
      go_loopw [9] (fun z wr => ∃ j : Nat, z = .int .i64 j ∧ j ≤ i ∧ Hid (∃ C, At S Q x j C ∧ SS w0 b off cap C wr)) (fun z _ => (intOf z).toNat)
      case atStart => exact ⟨i, rfl, by omega, hid ⟨_, by rw [← HSL.out]; exact At.start S Q x, HS0.out⟩⟩
      case round =>
        clear HS0
        obtain ⟨j, rfl, hji, HR⟩ := hrel
        obtain ⟨C, hat, hss⟩ := HR.out
        have HA := hid hat
        have HS2 := hid hss
        clear hat hss HR
        have fin : Hid (C = Hm.ins x S ++ Q → SS w0 b off cap (Hm.isort (D.take (i + 1)) ++ D.drop (i + 1)) wr) := fun e => by rw [← HN.out, ← e]; exact HS2.out
        by_cases hpj2 : 0 < j
        · obtain ⟨k, hk⟩ : ∃ k, j = k + 1 := ⟨j - 1, by omega⟩
          have ek : (j : Int) - 1 = (k : Int) := by omega
          have hpj3 : (0 : Int) < (j : Int) := by omega
          have hjn : j < n := by omega
          have hkn : k < n := by omega
          have hjn' : (j : Int) < (n : Int) := by omega
          have hkn' : (k : Int) < (n : Int) := by omega
          have hkS : k < S.length := by rw [HSL.out]; omega
          obtain ⟨y, hyS, hform, hst, hdn⟩ := HA.out.look hk hkS
          obtain ⟨⟨Ay, ny, cy, hyv⟩, hyw⟩ := HSO.out y hyS
          have HST := hid hst
          have HDN := hid hdn
          have HQ2 : Hid (SS w0 b off cap (S.take k ++ y :: x :: (S.drop j ++ Q)) wr) := by rw [← hform]; exact HS2
          have hPl : (S.take k).length = k := by rw [List.length_take]; omega
          obtain ⟨ck, ckq⟩ := HQ2.out.1.mid hPl
          have hjc : wr.cell? ⟨b, off + j * 2, none⟩ = some (.int .i64 (x.1 : Int)) ∧ wr.cell? ⟨b, off + j * 2 + 1, none⟩ = some x.2.1 := by
            have := HQ2.out.1.at_ (k + 1) x (by rw [List.getElem?_append_right (by omega), hPl, show k + 1 - k = 1 by omega]; rfl)
            rw [← hk] at this
            exact this
          obtain ⟨cj, cjq⟩ := hjc
          have hCl : n ≤ C.length := by
            rw [HA.out.is]
            have h1 := congrArg List.length HN.out
            simp [Hm.isort_len, (Hm.ins_perm x S).length_eq] at h1
            simp
            have := HL.out
            omega
          obtain ⟨fj, fjq⟩ := HS2.out.1.frozen (k := j) (by omega)
          obtain ⟨fk, fkq⟩ := HS2.out.1.frozen (k := k) (by omega)
          have HK := hid hk
          have hwk : IntKind.i64.wrap (k : Int) = (k : Int) := IntWalk.i64_in _ (by omega)
          have hk0 : (0 : Int) ≤ (k : Int) := by omega
          have HSW : Hid (∀ W, SS w0 b off cap C W → SS w0 b off cap (S.take k ++ x :: y :: (S.drop j ++ Q)) ((((W.setCell ⟨b, off + j * 2, none⟩ (.int .i64 (y.1 : Int))).setCell ⟨b, off + j * 2 + 1, none⟩ y.2.1).setCell ⟨b, off + k * 2, none⟩ (.int .i64 (x.1 : Int))).setCell ⟨b, off + k * 2 + 1, none⟩ x.2.1).drew) := fun W h => by
            rw [hform] at h
            exact SS.swap h hPl hk
          clear hk hform hPl hCl HQ2 hst hdn hyS hkS
          rw [hxv] at cjq HSW
          rw [hyv] at ckq HSW
          have HCC := hid (cmpB_any x.1 y.1 Ax Ay nx cx ny cy wr.drew hxw hyw)
          have hlt0 : b < wr.drew.heap.size := HS2.out.1.lt
          generalize x.1 = X at cj HCC HSW HST HDN hxw
          generalize y.1 = Y at ck HCC HSW HST HDN hyw
          by_cases hneg : X < Y
          · have hr : (X : Int) - (Y : Int) < 0 := by omega
            have HL2 := hid (HST.out hneg)
            generalize (X : Int) - (Y : Int) = r at hr HCC
            clear HST HDN fin
            go_wp2
            go_region_held3 (fun W => W.cell? ⟨b, off + j * 2, none⟩ = some (.int .i64 (X : Int)) ∧ W.cell? ⟨b, off + j * 2 + 1, none⟩ = some (.slice Ax nx cx) ∧ W.cell? ⟨b, off + k * 2, none⟩ = some (.int .i64 (Y : Int)) ∧ W.cell? ⟨b, off + k * 2 + 1, none⟩ = some (.slice Ay ny cy)) (first | exact ⟨cj, cjq, ck, ckq⟩ | assumption) (first | (go_at_call 137; (with_reducible refine HCC.out.mono ?_); rintro e w8 ⟨rfl, hb8⟩; have hS8 := cellsB hb8 hlt0 cj cjq ck ckq; have HS8 := hid ((HS2.out.drewN 1).keep hb8); have HB8 := hid hb8; clear hb8))
            have R := hid (HSW.out _ HS8.out)
            obtain ⟨c1, c2, c3, c4⟩ := hS8
            have g1 : w8.frozen? ⟨b, off + j * 2, none⟩ = false := by
              rw [World.frozen?_of_block (w := wr.drew) (HB8.out.block b hlt0)]; exact fj
            have g2 : w8.frozen? ⟨b, off + j * 2 + 1, none⟩ = false := by
              rw [World.frozen?_of_block (w := wr.drew) (HB8.out.block b hlt0)]; exact fjq
            have g3 : w8.frozen? ⟨b, off + k * 2, none⟩ = false := by
              rw [World.frozen?_of_block (w := wr.drew) (HB8.out.block b hlt0)]; exact fk
            have g4 : w8.frozen? ⟨b, off + k * 2 + 1, none⟩ = false := by
              rw [World.frozen?_of_block (w := wr.drew) (HB8.out.block b hlt0)]; exact fkq
            clear cj cjq ck ckq fj fjq fk fkq
            go_wp2
            go_region
            go_wp2
            go_roundw
            case measure => have := HK.out; simp [intOf]; omega
            case rel => exact ⟨k, by first | rfl | go_num, by have := HK.out; omega, hid ⟨_, HL2.out, R.out⟩⟩
          · have hr : decide ((X : Int) - (Y : Int) < 0) = false := decide_eq_false (by omega)
            have HL2 := hid (fin.out (HDN.out hneg))
            generalize (X : Int) - (Y : Int) = r at hr HCC
            clear HST HDN fin
            go_wp2
            go_region_held3 (fun W => W.cell? ⟨b, off + j * 2, none⟩ = some (.int .i64 (X : Int)) ∧ W.cell? ⟨b, off + j * 2 + 1, none⟩ = some (.slice Ax nx cx) ∧ W.cell? ⟨b, off + k * 2, none⟩ = some (.int .i64 (Y : Int)) ∧ W.cell? ⟨b, off + k * 2 + 1, none⟩ = some (.slice Ay ny cy)) (first | exact ⟨cj, cjq, ck, ckq⟩ | assumption) (first | (go_at_call 137; (with_reducible refine HCC.out.mono ?_); rintro e w8 ⟨rfl, hb8⟩; have hS8 := cellsB hb8 hlt0 cj cjq ck ckq; have HB8 := hid hb8; clear hb8))
            go_wp2
            go_roundw
            case measure => simp [intOf]; omega
            case rel => exact ⟨i + 1, by go_num, by omega, hid ((HL2.out.drewN 1).keep HB8.out)⟩
        · have hpj3 : decide ((0 : Int) < (j : Int)) = false := decide_eq_false (by omega)
          have hpj4 : decide (0 < j) = false := decide_eq_false (by omega)
          go_wp2
          go_quiet (fail)
          go_wp2
          go_roundw
          case measure => simp [intOf]; omega
          case rel =>
            obtain rfl : j = 0 := by omega
            exact ⟨i + 1, by go_num, by omega, hid ((fin.out HA.out.low).drewN _)⟩
    · have hlt' : decide ((i : Int) < (n : Int)) = false := decide_eq_false (by omega)
      go_wp2
      go_end0
      refine ⟨rfl, ?_⟩
      have := HR.out
      rwa [List.take_of_length_le (by rw [HL.out]; omega), List.drop_of_length_le (by rw [HL.out]; omega), List.append_nil] at this
set_option maxHeartbeats 1000000 in
theorem stabB_any (w0 : World) (b off cap n : Nat) (D : List Br) (w : World) (hOk : ∀ d ∈ D, BrOk d) (H : SS w0 b off cap D w) (hl : D.length = n) (hn : n ≤ 19) :
    Calls Try.prog 165 #[.slice (some ⟨b, off, none⟩) n cap, .int .i64 (n : Int), .func (.func 137) #[] #[]] w fun e w' => e = .returned (.tuple #[]) ∧ SS w0 b off cap (Hm.isort D) w' := by
  have hI := insB_any w0 b off cap n D w hOk H hl (by omega)
  have h1 : decide ((20 : Int) ≤ (n : Int)) = false := decide_eq_false (by omega)
  have h2 : decide ((20 : Int) < (n : Int)) = false := decide_eq_false (by omega)
  clear H hOk
  go_enter Try.func165, Try.ntmps165
  go_wp2
  go_loopw [7, 8] (fun x y wr => x = .int .i64 0 ∧ y = .int .i64 20 ∧ wr = w) (fun _ _ _ => 0)
  case atStart => exact ⟨rfl, rfl, rfl⟩
  case round =>
    obtain ⟨rfl, rfl, rfl⟩ := hrel
    go_wp2_with fail
    with_reducible refine hI.mono ?_
    rintro e w1 ⟨rfl, hs⟩
    have HS := hid hs
    clear hs hI
    go_wp2
    go_loopw [6] (fun x wr => x = .int .i64 20 ∧ wr = w1) (fun _ _ => 0)
    case atStart => exact ⟨rfl, rfl⟩
    case round =>
      obtain ⟨rfl, rfl⟩ := hrel
      go_wp2
      go_end0
      exact ⟨rfl, HS.out⟩
theorem sortB_any (b off cap n : Nat) (D : List Br) (w : World) (hOk : ∀ d ∈ D, BrOk d) (H : QB w b off cap D) (hl : D.length = n) (hn : n ≤ 19) :
    Calls Try.prog 136 #[.slice (some ⟨b, off, none⟩) n cap, .func (.func 137) #[] #[]] w fun e w' => e = .returned (.tuple #[]) ∧ SS w b off cap (Hm.isort D) w' := by
  have hI := stabB_any w b off cap n D w hOk ⟨H, ⟨rfl, rfl, rfl, Nat.le_refl _, fun _ _ _ => rfl⟩⟩ hl hn
  clear H hOk
  go_enter Try.func136, Try.ntmps136
  go_wp2_with fail
  with_reducible refine hI.mono ?_
  rintro e w1 ⟨rfl, hs⟩
  have HS := hid hs
  clear hs hI
  go_wp2
  go_end0
  exact ⟨rfl, HS.out⟩
end Go.Proofs.Ytapjodbaaejldaa


/-
The contracts of slices.Grow of nil and slices.Concat of two, at []int, and of tree.join.
-/
namespace Go.Proofs.Ytapjodbaaejldaa
open Go.RowKit

/-- A slice of the call's own, of no numbers yet. -/
def GrowPost (w : World) (e : Ending) (w' : World) : Prop :=
  ∃ v, e = .returned v ∧ OwnI w' w.heap.size v [] ∧ Below w.heap.size w w'
set_option maxRecDepth 100000 in
theorem growI_any (n : Nat) (w : World) (h0 : 1 ≤ n) (hn : n ≤ 1000) : Calls Try.prog 192 #[.slice none 0 0, .int .i64 (n : Int)] w (GrowPost w) := by
  obtain ⟨i0, hi, hz0, hz1, hz2⟩ := info_parts Try.infoInt
  have hrz : ∀ ty, (Builtin.append_ #[53, 3] ty #[.slice none 0 0, .int .i64 (n : Int)]).run Try.prog w =
      .ok (.slice (some ⟨w.heap.size, 0, none⟩) n (grownCap w n 0 3)) (w.drew.alloc (.cells ([].toArray ++ Builtin.zeroCells (Value.int .i64 0).cells n ++ Builtin.zeroCells (Value.int .i64 0).cells (grownCap w n 0 3 - n)) 3)) := fun ty => by
    have h := Lib.run_append_grow_zeros w 53 3 ty 3 i0 (.int .i64 0) .i64 .i64 Try.underlying53 Try.underlying3 hi hz0 none 0 0 [] (run_firstCells_none w.drew i0.size 0 0 0) n (by omega) (by rw [hz1]; decide) (by omega) (by omega) (by rw [hz2]; omega)
      (by rw [Nat.zero_add]; exact growslice_fits (by omega) (by rw [hz2]; omega))
    rw [Nat.zero_add] at h
    exact h
  have hG1 : n ≤ grownCap w n 0 3 := grownCap_ge w _ _ _
  have hG2 := grownCap_le_maxLen w n 0 3 (by unfold maxLen; omega)
  have hsz : ([].toArray ++ Builtin.zeroCells (Value.int .i64 0).cells n ++ Builtin.zeroCells (Value.int .i64 0).cells (grownCap w n 0 3 - n)).size = grownCap w n 0 3 * 1 := by
    have e1 : (Value.int .i64 0).cells.size = 1 := rfl
    simp [Builtin.zeroCells, e1]
    omega
  have hP : Hid (GrowPost w (.returned (.slice (some ⟨w.heap.size, 0, none⟩) 0 (grownCap w n 0 3))) (w.drew.alloc (.cells ([].toArray ++ Builtin.zeroCells (Value.int .i64 0).cells n ++ Builtin.zeroCells (Value.int .i64 0).cells (grownCap w n 0 3 - n)) 3))) :=
    ⟨_, rfl, World.ownsRow_made (base := w.heap.size) (e := 3) (size := 1) w.drew _ _ (Nat.le_refl _) hG2 hsz, (bl_drewN (Below.refl _ w) 1).alloc (Nat.le_refl _) _⟩
  have h1 : decide ((n : Int) < 0) = false := decide_eq_false (by omega)
  have h4 : (0 : Int) < (n : Int) := by omega
  clear hsz hG1 hG2
  generalize grownCap w n 0 3 = G at *
  generalize w.drew.alloc (.cells ([].toArray ++ Builtin.zeroCells (Value.int .i64 0).cells n ++ Builtin.zeroCells (Value.int .i64 0).cells (G - n)) 3) = W at *
  go_enter Try.func192, Try.ntmps192
  go_wp2_with (at_builtin; refine Lib.wpList_append_run _ rfl _ _ _ _ rfl _ _ rfl rfl _ _ (hrz _) ?_)
  all_goals (go_ret; exact hP.out)

def lI (L : List Nat) : List Int := L.map fun x : Nat => (x : Int)
/-- 'out = append(out, row...)', out a row of the call's own, row another. -/
theorem app_row {ops : Array Oper} {rest : List Oper} {o : Oper} {a : Act} {Q : Exit → Act → World → Prop} {wr : World} {L M : List Nat} {v : Value} {base b f c m : Nat} (hgd : o.guard = none) (s x : Operand)
    (ho : o.op = .call { callee := .builtin .append, args := #[s, x], argTypes := #[53, 53] })
    (hs : a.eval s = v) (hown : OwnI wr base v (lI L)) (hx : a.eval x = .slice (some ⟨b, f, none⟩) m c) (hm : m = M.length)
    (hc : ∀ (j y : Nat), M[j]? = some y → wr.cell? ⟨b, f + j, none⟩ = some (.int .i64 (y : Int)))
    (hbase : base ≤ wr.heap.size) (hlen : L.length + M.length ≤ 1000)
    (h : ∀ v' w', OwnI w' base v' (lI (L ++ M)) → Below base wr w' → wpList Try.prog ops Q rest (a.put o.dst v') w') :
    wpList Try.prog ops Q (o :: rest) a wr := by
  obtain ⟨i0, hi, hz0, hz1, hz2⟩ := info_parts Try.infoInt
  have hl : (lI L).length = L.length := by unfold lI; simp
  refine wpList_append_own _ hgd s x 53 ho base 3 i0 (.int .i64 0) 1 8 Try.underlying53 hi hz0 hz1 hz2 rfl (by decide) v _ _ hs hown ⟨b, f, none⟩ m c (M.map fun y : Nat => .int .i64 (y : Int)) hx (by rw [List.length_map, hm, Nat.mul_one]) ?_ ?_ ?_ ?_ hbase ?_
  · intro j u hj
    rw [List.getElem?_map] at hj
    cases he : M[j]? with
    | none => rw [he] at hj; cases hj
    | some y =>
      rw [he] at hj
      simp only [Option.map_some, Option.some.injEq] at hj
      rw [← hj, Addr.add_lit]
      exact hc j y he
  · intro u hu
    obtain ⟨y, _, rfl⟩ := List.mem_map.1 hu
    rfl
  · rw [hl, hm]; unfold maxLen; omega
  · rw [hl, hm]; omega
  · intro v' w' h1 h2 _
    refine h v' w' ?_ ((Below.refl _ _).grown h2 hbase fun k hk => (World.ownsRow.lt hown k hk).1)
    unfold OwnI
    have e : lI (L ++ M) = lI L ++ lI M := by unfold lI; rw [List.map_append]
    rw [e, List.map_append, List.length_append]
    have e2 : (lI M).map (Value.int .i64) = M.map fun y : Nat => Value.int .i64 (y : Int) := by unfold lI; rw [List.map_map]; rfl
    have e3 : (lI M).length = m := by unfold lI; rw [List.length_map, hm]
    rw [e2, e3]
    exact h1
/-- The first i of the lists one after the other. -/
def cat (f : Nat → List Nat) : Nat → List Nat
  | 0 => []
  | i + 1 => cat f i ++ f i
theorem cat_le (f : Nat → List Nat) : ∀ {i n : Nat}, i ≤ n → (cat f i).length ≤ (cat f n).length
  | _, 0, h => by rw [Nat.le_zero.1 h]; exact Nat.le_refl _
  | i, n + 1, h => by
    by_cases e : i = n + 1
    · rw [e]; exact Nat.le_refl _
    · have := cat_le f (i := i) (n := n) (by omega)
      show _ ≤ (cat f n ++ f n).length
      rw [List.length_append]; omega
/-- The parts of a [][]int. -/
def Parts (w : World) (b o n : Nat) (f : Nat → List Nat) : Prop :=
  ∀ k, k < n → ∃ bk ok ck, w.cell? ⟨b, o + k, none⟩ = some (.slice (some ⟨bk, ok, none⟩) (f k).length ck) ∧ bk < w.heap.size ∧ ∀ (j x : Nat), (f k)[j]? = some x → w.cell? ⟨bk, ok + j, none⟩ = some (.int .i64 (x : Int))
def CatPost (L : List Nat) (w : World) (e : Ending) (w' : World) : Prop := ∃ v, e = .returned v ∧ OwnI w' w.heap.size v (lI L) ∧ Below w.heap.size w w'
set_option maxHeartbeats 1000000 in
theorem concat_any (b o n c : Nat) (f : Nat → List Nat) (w : World) (hb : b < w.heap.size) (h : Parts w b o n f) (h1 : 1 ≤ (cat f n).length) (h2 : (cat f n).length ≤ 1000) (hn : n ≤ 1000) :
    Calls Try.prog 166 #[.slice (some ⟨b, o, none⟩) n c] w (CatPost (cat f n) w) := by
  have H := hid h
  have hG := growI_any (cat f n).length w h1 h2
  clear h
  go_enter Try.func166, Try.ntmps166
  go_wp2
  go_loopw [3, 11] (fun x y wr => ∃ i s : Nat, i ≤ n ∧ s ≤ 1000 ∧ x = .int .i64 (s : Int) ∧ y = .int .i64 (i : Int) ∧ Hid (s = (cat f i).length) ∧ w = wr) (fun _ y _ => n - (intOf y).toNat)
  case atStart => exact ⟨0, 0, by omega, by omega, rfl, rfl, rfl, rfl⟩
  case round =>
    obtain ⟨i, s, hi, hs, rfl, rfl, HS, rfl⟩ := hrel
    by_cases hlt : i < n
    · have hlt' : (i : Int) < (n : Int) := by omega
      obtain ⟨bk, ok, ck, hc, _, _⟩ := H.out i hlt
      have HS2 : Hid (s + (f i).length = (cat f (i + 1)).length) := by
        show _ = (cat f i ++ f i).length
        rw [List.length_append, HS.out]
      have hs2 : s + (f i).length ≤ 1000 := by
        have := cat_le f (i := i + 1) (n := n) (by omega)
        rw [HS2.out]; omega
      clear HS hG
      generalize (f i).length = m at hc HS2 hs2
      obtain ⟨t, ht⟩ : ∃ t : Nat, t = s + m := ⟨_, rfl⟩
      have ht2 : (s : Int) + (m : Int) = (t : Int) := by omega
      have ht3 : decide ((t : Int) < 0) = false := decide_eq_false (by omega)
      rw [← ht] at HS2 hs2
      clear ht
      go_wp2
      go_roundw
      case measure => simp [intOf]; omega
      case rel => exact ⟨i + 1, t, by omega, by omega, by go_num, by go_num, HS2, by trivial⟩
    · have hdl : decide ((i : Int) < (n : Int)) = false := decide_eq_false (by omega)
      obtain rfl : n = i := by omega
      rw [← HS.out] at hG h1
      go_wp2_with fail
      with_reducible refine hG.mono ?_
      rintro e w1 ⟨v1, rfl, ho1, hb1⟩
      have HO := hid ho1
      have HB := hid hb1
      clear hG ho1 hb1 HS
      go_wp2
      go_loopw [6, 27] (fun x y wr => ∃ (v : Value) (i : Nat), v = x ∧ i ≤ n ∧ y = .int .i64 (i : Int) ∧ Hid (OwnI wr w.heap.size v (lI (cat f i))) ∧ Hid (Below w.heap.size w wr)) (fun _ y _ => n - (intOf y).toNat)
      case atStart => exact ⟨v1, 0, rfl, by omega, rfl, HO, HB⟩
      case round =>
        clear HO HB
        obtain ⟨v, i, rfl, hi, rfl, HO, HB⟩ := hrel
        by_cases hlt : i < n
        · have hlt' : (i : Int) < (n : Int) := by omega
          obtain ⟨bk, ok, ck, hc, hbk, hx⟩ := H.out i hlt
          have hc1 := (HB.out.cell (p := ⟨b, o + i, none⟩) hb).trans hc
          have HX := hid (fun (j x : Nat) (hj : (f i)[j]? = some x) => (HB.out.cell (p := ⟨bk, ok + j, none⟩) hbk).trans (hx j x hj))
          have hl : (cat f i).length + (f i).length ≤ 1000 := by
            have := cat_le f (i := i + 1) (n := n) (by omega)
            have e : (cat f (i + 1)).length = (cat f i).length + (f i).length := by
              show (cat f i ++ f i).length = _
              rw [List.length_append]
            omega
          obtain ⟨m, hm⟩ : ∃ m, m = (f i).length := ⟨_, rfl⟩
          have HM := hid hm
          have HL := hid hl
          rw [← hm] at hc1
          clear hx hc hm hl
          go_wp2_with (at_builtin; with_reducible refine app_row rfl _ _ rfl rfl HO.out rfl HM.out HX.out HB.out.size HL.out ?_)
          intro v2 w2 ho2 hb2
          have HO2 : Hid (OwnI w2 w.heap.size v2 (lI (cat f (i + 1)))) := ho2
          have HB2 := hid (HB.out.trans hb2)
          clear ho2 hb2 HO HB hc1 HX HM HL
          go_wp2
          go_roundw
          case measure => simp [intOf]; omega
          case rel => exact ⟨v2, i + 1, rfl, by omega, by go_num, HO2, HB2⟩
        · have hdl : decide ((i : Int) < (n : Int)) = false := decide_eq_false (by omega)
          obtain rfl : n = i := by omega
          go_wp2
          go_ret
          exact ⟨_, rfl, HO.out, HB.out⟩
theorem OwnI.leaf {w : World} {base : Nat} {v : Value} {L : List Nat} (h : OwnI w base v (lI L)) (h1 : 1 ≤ L.length) : Leaf w v L := by
  have hl : (lI L).length = L.length := by unfold lI; simp
  have hcell := fun g cap (e : v = .slice (some ⟨g, 0, none⟩) (lI L).length cap) (k : Nat) (hk : k < (lI L).length) => World.ownsRow.cellAt (e ▸ h) k (by simpa using hk)
  have hlt := World.ownsRow.lt h
  rcases h.2 with ⟨rfl, h0⟩ | ⟨g, cap, cur, rfl, _, _, h3, _⟩
  · rw [hl] at h0; omega
  · refine ⟨g, 0, cap, by rw [hl], by rw [← hl]; exact h3, (hlt g rfl).2, fun j x hj => ?_⟩
    have hk : j < (lI L).length := by
      rw [hl]
      exact (List.getElem?_eq_some_iff.1 hj).1
    rw [Nat.zero_add, hcell g cap rfl j hk]
    unfold lI
    rw [List.map_map, List.getElem?_map, hj]
    rfl
def two (L M : List Nat) (k : Nat) : List Nat := if k = 0 then L else M
theorem cat_two (L M : List Nat) : cat (two L M) 2 = L ++ M := rfl
theorem parts_two {w : World} {N : Nat} {v u : Value} {L M : List Nat} {t : TypeId} (hN : w.heap.size = N) (hv : Leaf w v L) (hu : Leaf w u M) : Parts (w.alloc (.cells #[v, u] t)) N 0 2 (two L M) := by
  subst hN
  have hb := bl_new w (.cells #[v, u] t)
  obtain ⟨b1, o1, c1, rfl, _, hl1, hx1⟩ := hv
  obtain ⟨b2, o2, c2, rfl, _, hl2, hx2⟩ := hu
  intro k hk
  have hlt : ∀ {b}, b < w.heap.size → b < (w.alloc (.cells #[.slice (some ⟨b1, o1, none⟩) L.length c1, .slice (some ⟨b2, o2, none⟩) M.length c2] t)).heap.size := fun h => Nat.lt_of_lt_of_le h hb.size
  match k, hk with
  | 0, _ => exact ⟨b1, o1, c1, by rw [cell_of_row _ _ _ _ _ _ (heap_alloc_new w _)]; rfl, hlt hl1, fun j x hj => (hb.cell (p := ⟨b1, o1 + j, none⟩) hl1).trans (hx1 j x hj)⟩
  | 1, _ => exact ⟨b2, o2, c2, by rw [cell_of_row _ _ _ _ _ _ (heap_alloc_new w _)]; rfl, hlt hl2, fun j x hj => (hb.cell (p := ⟨b2, o2 + j, none⟩) hl2).trans (hx2 j x hj)⟩
def JoinPost (x y : Br) (w : World) (e : Ending) (w' : World) : Prop :=
  ∃ v, e = .returned (brV (x.1 + y.1, v, x.2.2 ++ y.2.2)) ∧ Leaf w' v (x.2.2 ++ y.2.2) ∧ (∀ k, v.ownBlock = some k → w.heap.size ≤ k) ∧ Below w.heap.size w w'
/-- What Concat leaves of two. -/
def Cat2Post (L : List Nat) (w : World) (e : Ending) (w' : World) : Prop :=
  ∃ b o n c, e = .returned (.slice (some ⟨b, o, none⟩) n c) ∧ Hid (Leaf w' (.slice (some ⟨b, o, none⟩) n c) L) ∧ w.heap.size ≤ b ∧ Below w.heap.size w w'
theorem concat_two {L M : List Nat} {N : Nat} {w : World} (hb : N < w.heap.size) (h : Parts w N 0 2 (two L M)) (h1 : 1 ≤ L.length) (h2 : L.length + M.length ≤ 1000) :
    Calls Try.prog 166 #[.slice (some ⟨N, 0, none⟩) 2 2] w (Cat2Post (L ++ M) w) := by
  refine (concat_any N 0 2 2 (two L M) w hb h (by rw [cat_two, List.length_append]; omega) (by rw [cat_two, List.length_append]; omega) (by decide)).mono ?_
  rintro e w1 ⟨v, rfl, ho, hb1⟩
  rw [cat_two] at ho
  have hl := World.ownsRow.lt ho
  have hL := OwnI.leaf ho (by rw [List.length_append]; omega)
  have hL2 := hL
  obtain ⟨b, o, c, rfl, _⟩ := hL2
  exact ⟨b, o, _, c, rfl, hL, (hl b rfl).1, hb1⟩
theorem set_past {w : World} {N : Nat} {v u : Value} {a : Addr} (h : a.block ≠ N) : ((w.setCell ⟨N, 0, none⟩ v).setCell ⟨N, 1, none⟩ u).cell? a = w.cell? a := by
  have hn : ∀ i, (⟨N, i, none⟩ : Addr) ≠ a := fun i e => h (by rw [← e])
  rw [World.cell?_setCell_other _ _ _ _ (hn 1), World.cell?_setCell_other _ _ _ _ (hn 0)]
theorem cellsJ {w w' : World} {N : Nat} {v1 v2 v3 v4 : Option Value} (k : Below w.heap.size w w') (hlt : N + 1 + 1 < w.heap.size) (h1 : w.cell? ⟨N, 0, none⟩ = v1) (h2 : w.cell? ⟨N, 1, none⟩ = v2) (h3 : w.cell? ⟨N + 1, 0, none⟩ = v3) (h4 : w.cell? ⟨N + 1, 1, none⟩ = v4) :
    w'.cell? ⟨N, 0, none⟩ = v1 ∧ w'.cell? ⟨N, 1, none⟩ = v2 ∧ w'.cell? ⟨N + 1, 0, none⟩ = v3 ∧ w'.cell? ⟨N + 1, 1, none⟩ = v4 :=
  ⟨(k.cell (p := ⟨N, 0, none⟩) (by simp; omega)).trans h1, (k.cell (p := ⟨N, 1, none⟩) (by simp; omega)).trans h2, (k.cell (p := ⟨N + 1, 0, none⟩) (by simp; omega)).trans h3, (k.cell (p := ⟨N + 1, 1, none⟩) (by simp; omega)).trans h4⟩
set_option maxHeartbeats 1000000 in
theorem join_any (x y : Br) (w : World) (hx : Leaf w x.2.1 x.2.2) (hy : Leaf w y.2.1 y.2.2) (wx : x.1 ≤ 1000000) (wy : y.1 ≤ 1000000) (h1 : 1 ≤ x.2.2.length) (h2 : x.2.2.length + y.2.2.length ≤ 1000) :
    Calls Try.prog 138 #[brV x, brV y] w (JoinPost x y w) := by
  obtain ⟨X, xv, Lx⟩ := x
  obtain ⟨Y, yv, Ly⟩ := y
  have hxs : ∃ A n c, xv = .slice A n c := by obtain ⟨b, o, c, h, _⟩ := hx; exact ⟨_, _, _, h⟩
  have hys : ∃ A n c, yv = .slice A n c := by obtain ⟨b, o, c, h, _⟩ := hy; exact ⟨_, _, _, h⟩
  obtain ⟨Ax, nx, cx, rfl⟩ := hxs
  obtain ⟨Ay, ny, cy, rfl⟩ := hys
  obtain ⟨W3, hW⟩ : ∃ W3, W3 = ((w.alloc (.cells #[.int .i64 (X : Int), .slice Ax nx cx] 160)).alloc (.cells #[.int .i64 (Y : Int), .slice Ay ny cy] 160)).alloc (.cells #[.int .i64 0, .slice none 0 0] 160) := ⟨_, rfl⟩
  have hb0 := bl_new w (.cells #[.int .i64 (X : Int), .slice Ax nx cx] 160)
  have hb1 := bl_new (w.alloc (.cells #[.int .i64 (X : Int), .slice Ax nx cx] 160)) (.cells #[.int .i64 (Y : Int), .slice Ay ny cy] 160)
  have hb2 := bl_new ((w.alloc (.cells #[.int .i64 (X : Int), .slice Ax nx cx] 160)).alloc (.cells #[.int .i64 (Y : Int), .slice Ay ny cy] 160)) (.cells #[.int .i64 0, .slice none 0 0] 160)
  have HB : Hid (Below w.heap.size w W3) := by
    show Below _ _ _
    rw [hW]; exact bl_then (bl_then hb0 hb1) hb2
  have c1 : W3.cell? ⟨w.heap.size, 0, none⟩ = some (.int .i64 (X : Int)) := by
    rw [hW, (hb1.trans (hb2.mono hb1.size)).cell (p := ⟨w.heap.size, 0, none⟩) (by simp), cell_of_row _ _ _ _ _ _ (heap_alloc_new w _)]; rfl
  have c2 : W3.cell? ⟨w.heap.size, 1, none⟩ = some (.slice Ax nx cx) := by
    rw [hW, (hb1.trans (hb2.mono hb1.size)).cell (p := ⟨w.heap.size, 1, none⟩) (by simp), cell_of_row _ _ _ _ _ _ (heap_alloc_new w _)]; rfl
  have c3 : W3.cell? ⟨w.heap.size + 1, 0, none⟩ = some (.int .i64 (Y : Int)) := by
    rw [hW, hb2.cell (p := ⟨w.heap.size + 1, 0, none⟩) (by simp)]; simp
  have c4 : W3.cell? ⟨w.heap.size + 1, 1, none⟩ = some (.slice Ay ny cy) := by
    rw [hW, hb2.cell (p := ⟨w.heap.size + 1, 1, none⟩) (by simp)]; simp
  have hsz : w.heap.size + 1 + 1 = ((w.alloc (.cells #[.int .i64 (X : Int), .slice Ax nx cx] 160)).alloc (.cells #[.int .i64 (Y : Int), .slice Ay ny cy] 160)).heap.size := by simp
  have c5 : W3.cell? ⟨w.heap.size + 1 + 1, 0, none⟩ = some (.int .i64 0) := by
    rw [hW, hsz, cell_of_row _ _ _ _ _ _ (heap_alloc_new _ _)]; rfl
  have c6 : W3.cell? ⟨w.heap.size + 1 + 1, 1, none⟩ = some (.slice none 0 0) := by
    rw [hW, hsz, cell_of_row _ _ _ _ _ _ (heap_alloc_new _ _)]; rfl
  have hs3 : W3.heap.size = w.heap.size + 1 + 1 + 1 := by rw [hW]; simp
  have hf : ∀ j, W3.frozen? ⟨w.heap.size + 1 + 1, j, none⟩ = false := fun j => by
    rw [hW, hsz, World.frozen?_alloc_at _ _ _ _ rfl]
  have c7 := hf 0
  have c8 := hf 1
  have HX := hid (hx.below HB.out)
  have HY := hid (hy.below HB.out)
  clear hb0 hb1 hb2 hsz hf hx hy
  obtain ⟨W4, hW4⟩ : ∃ W4, W4 = (W3.alloc (.cells #[.slice Ax nx cx, .slice Ay ny cy] 53)).drew := ⟨_, rfl⟩
  have hb4 : Below W3.heap.size W3 W4 := by rw [hW4]; exact bl_drewN (bl_new W3 _) 1
  have hPt : Parts W4 (w.heap.size + 1 + 1 + 1) 0 2 (two Lx Ly) := by rw [hW4]; exact parts_two hs3 HX.out HY.out
  have hsz4 : W4.heap.size = w.heap.size + 1 + 1 + 1 + 1 := by rw [hW4, ← hs3]; simp
  have HC := hid (concat_two (by omega) hPt h1 h2)
  have d1 := (hb4.cell (p := ⟨w.heap.size, 0, none⟩) (by simp; omega)).trans c1
  have d2 := (hb4.cell (p := ⟨w.heap.size, 1, none⟩) (by simp; omega)).trans c2
  have d3 := (hb4.cell (p := ⟨w.heap.size + 1, 0, none⟩) (by simp; omega)).trans c3
  have d4 := (hb4.cell (p := ⟨w.heap.size + 1, 1, none⟩) (by simp; omega)).trans c4
  have d5 := (hb4.cell (p := ⟨w.heap.size + 1 + 1, 0, none⟩) (by simp; omega)).trans c5
  have d6 := (hb4.cell (p := ⟨w.heap.size + 1 + 1, 1, none⟩) (by simp; omega)).trans c6
  have D7 := hid (hb4.block (w.heap.size + 1 + 1) (by omega))
  have hlt4 : w.heap.size + 1 + 1 < W4.heap.size := Nat.lt_of_lt_of_le (by omega) hb4.size
  have HB4 := hid (bl_then HB.out hb4)
  clear hb4 hPt HB
  go_enter Try.func138, Try.ntmps138
  go_wp2_with fail
  rw [← hW]
  clear hW
  have hXY : IntKind.i64.wrap ((X : Int) + (Y : Int)) = (X : Int) + (Y : Int) := IntWalk.i64_in _ (by omega)
  go_region_held3 (fun W => W.cell? ⟨w.heap.size, 0, none⟩ = some (.int .i64 (X : Int)) ∧ W.cell? ⟨w.heap.size, 1, none⟩ = some (.slice Ax nx cx) ∧ W.cell? ⟨w.heap.size + 1, 0, none⟩ = some (.int .i64 (Y : Int)) ∧ W.cell? ⟨w.heap.size + 1, 1, none⟩ = some (.slice Ay ny cy)) (first | exact ⟨c1, c2, c3, c4⟩ | (rw [← hW4]; exact ⟨d1, d2, d3, d4⟩) | assumption | exact ⟨(set_past (by dsimp only; omega)).trans hS8.1, (set_past (by dsimp only; omega)).trans hS8.2.1, (set_past (by dsimp only; omega)).trans hS8.2.2.1, (set_past (by dsimp only; omega)).trans hS8.2.2.2⟩) (first | (go_at_call 166; rw [← hW4]; (with_reducible refine HC.out.mono ?_); rintro e w8 ⟨b8, o8, n8, k8, rfl, HL8, hb9, hb8⟩; have HN8 := hid hb9; have hS8 := cellsJ hb8 hlt4 d1 d2 d3 d4; have g5 := (hb8.cell (p := ⟨w.heap.size + 1 + 1, 0, none⟩) hlt4).trans d5; have g6 := (hb8.cell (p := ⟨w.heap.size + 1 + 1, 1, none⟩) hlt4).trans d6; have hbl := (hb8.block _ hlt4).trans D7.out; have g7 := (World.frozen?_of_block (a := ⟨w.heap.size + 1 + 1, 0, none⟩) hbl).trans c7; have g8 := (World.frozen?_of_block (a := ⟨w.heap.size + 1 + 1, 1, none⟩) hbl).trans c8; have HB8 := hid hb8; clear hb8 hb9 hbl c1 c2 c3 c4 c5 c6 c7 c8 d1 d2 d3 d4 d5 d6))
  go_wp2
  obtain ⟨w9, hw9⟩ : ∃ w9, w9 = (w8.setCell ⟨w.heap.size + 1 + 1, 0, none⟩ (.int .i64 ((X : Int) + (Y : Int)))).setCell ⟨w.heap.size + 1 + 1, 1, none⟩ (.slice (some ⟨b8, o8, none⟩) n8 k8) := ⟨_, rfl⟩
  have e1 : w9.cell? ⟨w.heap.size + 1 + 1, 0, none⟩ = some (.int .i64 ((X : Int) + (Y : Int))) := by
    rw [hw9, World.cell?_setCell_other _ _ _ _ (by intro h; injection h with _ h; cases h), World.cell?_setCell_same _ _ _ g5]
  have e2 : w9.cell? ⟨w.heap.size + 1 + 1, 1, none⟩ = some (.slice (some ⟨b8, o8, none⟩) n8 k8) := by
    have := (World.cell?_setCell_other w8 ⟨w.heap.size + 1 + 1, 0, none⟩ ⟨w.heap.size + 1 + 1, 1, none⟩ (.int .i64 ((X : Int) + (Y : Int))) (by intro h; injection h with _ h; cases h)).trans g6
    rw [hw9, World.cell?_setCell_same _ _ _ this]
  have hblk : ∀ k, k ≠ w.heap.size + 1 + 1 → w9.heap[k]? = w8.heap[k]? := fun k hk => by
    rw [hw9]
    exact (Below.heap_setCell _ _ _ k hk).trans (Below.heap_setCell _ _ _ k hk)
  have hsz9 : w8.heap.size = w9.heap.size := by rw [hw9]; simp
  have hfin : JoinPost (X, .slice Ax nx cx, Lx) (Y, .slice Ay ny cy, Ly) w (.returned (.agg #[.int .i64 ((X : Int) + (Y : Int)), .slice (some ⟨b8, o8, none⟩) n8 k8])) w9 := by
    have hB := HN8.out
    refine ⟨.slice (some ⟨b8, o8, none⟩) n8 k8, by simp, HL8.out.keep (Nat.le_of_eq hsz9) fun k hk => hblk k ?_, fun k hk => ?_, ?_⟩
    · injection hk with hk
      have hk : b8 = k := hk
      omega
    · injection hk with hk
      have hk : b8 = k := hk
      omega
    · have h1 : Below w.heap.size w w8 := bl_then HB4.out HB8.out
      refine ⟨?_, ?_, ?_, by rw [← hsz9]; exact h1.size, fun k hk => (hblk k (by omega)).trans (h1.block k hk)⟩
      · rw [hw9]; exact h1.os
      · rw [hw9]; exact h1.tape
      · rw [hw9]; exact h1.output
  have HF := hid hfin
  rw [← hw9]
  clear hfin hblk hw9 hS8 g5 g6 g7 g8
  refine bodyPost_ret (v := .agg #[.int .i64 ((X : Int) + (Y : Int)), .slice (some ⟨b8, o8, none⟩) n8 k8]) (by simp [results, Try.results138, go_sem, e1, e2]) rfl ?_
  exact HF.out
end Go.Proofs.Ytapjodbaaejldaa


/-
The contract of tree.leaves.
-/
namespace Go.Proofs.Ytapjodbaaejldaa
open Go.RowKit

/-- What a branch is to the forest. -/
def nd (d : Br) : Hm.Nd := (d.1, d.2.2)
/-- Each branch's slice reads its leaves; it lies from base on, and not where the branches lie. -/
def LvOk (base bb : Nat) (w : World) (D : List Br) : Prop := ∀ d ∈ D, Leaf w d.2.1 d.2.2 ∧ ∀ k, d.2.1.ownBlock = some k → base ≤ k ∧ k ≠ bb
theorem LvOk.below {base bb : Nat} {w w' : World} {D : List Br} (h : LvOk base bb w D) (hb : Below w.heap.size w w') : LvOk base bb w' D := fun d hd => ⟨(h d hd).1.below hb, (h d hd).2⟩
theorem LvOk.grown {base bb : Nat} {w w' : World} {D : List Br} (h : LvOk base bb w D) (hg : w.grownBy w' (some bb)) : LvOk base bb w' D :=
  fun d hd => ⟨(h d hd).1.grown hg fun e => ((h d hd).2 bb e).2 rfl, (h d hd).2⟩
theorem LvOk.ok {base bb : Nat} {w : World} {D : List Br} (h : LvOk base bb w D) (hw : ∀ d ∈ D, d.1 ≤ 1000000) : ∀ d ∈ D, BrOk d := fun d hd => by
  obtain ⟨b, o, c, e, _⟩ := (h d hd).1
  exact ⟨⟨_, _, _, e⟩, hw d hd⟩
def LeavesPost (wt : Nat → Nat) (n : Nat) (w : World) (e : Ending) (w' : World) : Prop :=
  ∃ D, e = .returned (.slice (some ⟨w.heap.size, 0, none⟩) n n) ∧ D.map nd = Hm.hstart wt n ∧ QB w' w.heap.size 0 n D ∧ LvOk w.heap.size w.heap.size w' D ∧ Below w.heap.size w w'
theorem hstart_snoc (wt : Nat → Nat) (i : Nat) : Hm.hstart wt (i + 1) = Hm.hstart wt i ++ [(wt i, [i])] := by unfold Hm.hstart; rw [List.range_succ, List.map_append]; rfl
/-- One branch more. -/
def LeavesAt (wt : Nat → Nat) (n i : Nat) (w wr : World) : Prop :=
  ∃ D, D.map nd = Hm.hstart wt i ∧ QB wr w.heap.size 0 n D ∧ LvOk w.heap.size w.heap.size wr D ∧ Below w.heap.size w wr
theorem LeavesAt.room {wt : Nat → Nat} {n i : Nat} {w wr : World} (h : LeavesAt wt n i w wr) (hi : i < n) (o : Obj) :
    (∃ u, (wr.alloc o).cell? ⟨w.heap.size, i * 2, none⟩ = some u) ∧ (∃ u, (wr.alloc o).cell? ⟨w.heap.size, i * 2 + 1, none⟩ = some u) ∧ (wr.alloc o).frozen? ⟨w.heap.size, i * 2, none⟩ = false ∧ (wr.alloc o).frozen? ⟨w.heap.size, i * 2 + 1, none⟩ = false := by
  obtain ⟨D, _, hq, _, _⟩ := h
  have hq := hq.below (bl_new wr o)
  obtain ⟨a1, a2⟩ := hq.room (i * 2) (by omega)
  obtain ⟨b1, b2⟩ := hq.room (i * 2 + 1) (by omega)
  rw [Nat.zero_add] at a1 a2 b1 b2
  exact ⟨Option.isSome_iff_exists.1 a1, Option.isSome_iff_exists.1 b1, a2, b2⟩
theorem LeavesAt.next {wt : Nat → Nat} {n i N x : Nat} {w wr : World} (h : LeavesAt wt n i w wr) (hi : i < n) (hN : wr.heap.size = N) (hx : wt i = x) :
    LeavesAt wt n (i + 1) w (((wr.alloc (.cells #[.int .i64 (i : Int)] 3)).setCell ⟨w.heap.size, i * 2, none⟩ (.int .i64 (x : Int))).setCell ⟨w.heap.size, i * 2 + 1, none⟩ (.slice (some ⟨N, 0, none⟩) 1 1)) := by
  subst hN; subst hx
  obtain ⟨D, hD, hq, hl, hb⟩ := h
  have hlen : D.length = i := by
    have := congrArg List.length hD
    rwa [List.length_map, Hm.hstart_len] at this
  have hb1 := bl_new wr (.cells #[.int .i64 (i : Int)] 3)
  have hq1 := (hq.below hb1).put i (wt i, .slice (some ⟨wr.heap.size, 0, none⟩) 1 1, [i]) hi (D' := D ++ [(wt i, .slice (some ⟨wr.heap.size, 0, none⟩) 1 1, [i])]) (by simp; omega) fun j => by
    by_cases e : j = i
    · rw [if_pos e, e, ← hlen, List.getElem?_append_right (Nat.le_refl _), Nat.sub_self]; rfl
    · rw [if_neg e]
      rcases Nat.lt_or_ge j D.length with h1 | h1
      · rw [List.getElem?_append_left h1]
      · rw [List.getElem?_append_right h1, List.getElem?_eq_none (l := D) h1, List.getElem?_eq_none]
        show 1 ≤ _
        omega
  rw [Nat.zero_add] at hq1
  have hlt := hq.lt
  have hle := hb.size
  have hg : (wr.alloc (.cells #[.int .i64 (i : Int)] 3)).grownBy (((wr.alloc (.cells #[.int .i64 (i : Int)] 3)).setCell ⟨w.heap.size, i * 2, none⟩ (.int .i64 ((wt i : Nat) : Int))).setCell ⟨w.heap.size, i * 2 + 1, none⟩ (.slice (some ⟨wr.heap.size, 0, none⟩) 1 1)) (some w.heap.size) := gset (gset (World.grownBy.refl _ _))
  refine ⟨_, ?_, hq1, ?_, (hb.trans (hb1.mono hle)).grown hg (Nat.le_trans hle hb1.size) fun k hk => ?_⟩
  · rw [List.map_append, hD, hstart_snoc]; rfl
  · intro d hd
    rcases List.mem_append.1 hd with hd | hd
    · exact (hl.below hb1).grown hg d hd
    · obtain rfl := List.mem_singleton.1 hd
      have h0 : LvOk w.heap.size w.heap.size (wr.alloc (.cells #[.int .i64 (i : Int)] 3)) [(wt i, .slice (some ⟨wr.heap.size, 0, none⟩) 1 1, [i])] := fun d hd => by
        obtain rfl := List.mem_singleton.1 hd
        refine ⟨⟨wr.heap.size, 0, 1, rfl, Nat.le_refl _, by simp, fun j x hj => ?_⟩, fun k hk => ?_⟩
        · rw [cell_of_row _ _ _ _ _ _ (heap_alloc_new wr _)]
          match j, hj with
          | 0, hj => injection hj with hj; rw [← hj]; rfl
        · injection hk with hk
          have hk : wr.heap.size = k := hk
          omega
      exact h0.grown hg _ (List.mem_singleton.2 rfl)
  · injection hk with hk
    omega
theorem LeavesAt.zero (wt : Nat → Nat) (n : Nat) (w : World) (z : Value) : LeavesAt wt n 0 w (w.alloc (.cells (madeCells z.cells (n * 2)) 160)) := by
  have hsz : (madeCells z.cells (n * 2)).size = n * 2 := size_madeCells _ _
  have hr := World.rowIs_alloc w (madeCells z.cells (n * 2)) 160 (fun j => (madeCells z.cells (n * 2))[j]?.getD default) fun i hi => by rw [Array.getElem?_eq_getElem hi]; rfl
  rw [hsz] at hr
  refine ⟨[], rfl, ⟨hr.lt, Nat.zero_le _, fun k d hd => by simp at hd, fun j hj => ?_⟩, fun d hd => by simp at hd, bl_new w _⟩
  rw [Nat.zero_add]
  exact ⟨by rw [hr.cell hj]; rfl, hr.frozen j⟩
theorem Try.infoBr : (Try.prog.info? 160).map (fun i => (i.zero, i.size, i.bytes)) = some (some (.agg #[.int .i64 0, .slice none 0 0]), 2, 32) := by kernel_rfl
set_option maxHeartbeats 1000000 in
theorem leaves_any {A : Option Addr} {n c : Nat} {g : Nat → Int} {wt : Nat → Nat} (w : World) (h : IRow w A n g) (hg : ∀ k, k < n → g k = ((wt k : Nat) : Int)) (hn : n ≤ 12) :
    Calls Try.prog 135 #[.slice A n c] w (LeavesPost wt n w) := by
  obtain ⟨i0, hi, hz0, hz1, hz2⟩ := info_parts Try.infoBr
  have hmk := run_make (P := Try.prog) w 156 160 i0 (.agg #[.int .i64 0, .slice none 0 0]) Try.underlying156 hi hz0 .i64 .i64 n n (by omega) (Int.le_refl _) (by rw [hz2]; omega) (by omega)
  rw [hz1, Int.toNat_natCast] at hmk
  have H0 := hid (LeavesAt.zero wt n w (.agg #[.int .i64 0, .slice none 0 0]))
  have H := hid h
  have HG := hid hg
  clear h hg
  generalize w.alloc (.cells (madeCells (Value.agg #[.int .i64 0, .slice none 0 0]).cells (n * 2)) 160) = w0 at hmk H0
  go_enter Try.func135, Try.ntmps135
  go_wp2
  go_loopw [11] (fun y wr => ∃ i : Nat, i ≤ n ∧ y = .int .i64 (i : Int) ∧ Hid (LeavesAt wt n i w wr)) (fun y _ => n - (intOf y).toNat)
  case atStart => exact ⟨0, by omega, rfl, H0⟩
  case round =>
    obtain ⟨i, hi, rfl, HI⟩ := hrel
    by_cases hlt : i < n
    · have hlt' : (i : Int) < (n : Int) := by omega
      have HB := hid (show Below w.heap.size w wr from HI.out.choose_spec.2.2.2)
      obtain ⟨b, o, rfl, _, hc⟩ := (H.out.keep HB.out) i hlt
      rw [HG.out i hlt] at hc
      obtain ⟨⟨u1, r1⟩, ⟨u2, r2⟩, f1, f2⟩ := HI.out.room hlt (.cells #[.int .i64 (i : Int)] 3)
      obtain ⟨x, hx⟩ : ∃ x, x = wt i := ⟨_, rfl⟩
      have HN := hid (HI.out.next (x := x) hlt rfl hx.symm)
      rw [← hx] at hc
      clear hx HI H0 HB
      go_wp2
      go_roundw
      case measure => simp [intOf]; omega
      case rel => exact ⟨i + 1, by omega, by go_num, HN⟩
    · have hdl : decide ((i : Int) < (n : Int)) = false := decide_eq_false (by omega)
      obtain rfl : n = i := by omega
      go_wp2
      go_ret
      obtain ⟨D, h1, h2, h3, h4⟩ := HI.out
      exact ⟨D, rfl, h1, h2, h3, h4⟩
end Go.Proofs.Ytapjodbaaejldaa


/-
The contract of tree.depths: the forest is walked.
-/
namespace Go.Proofs.Ytapjodbaaejldaa
open Go.RowKit

/-- What join leaves. -/
def Join2Post (X Y : Nat) (L : List Nat) (w : World) (e : Ending) (w' : World) : Prop :=
  ∃ (Z b o n c : Nat), e = .returned (.agg #[.int .i64 (Z : Int), .slice (some ⟨b, o, none⟩) n c]) ∧ Hid (Z = X + Y ∧ n = L.length ∧ w.heap.size ≤ b ∧ Leaf w' (.slice (some ⟨b, o, none⟩) n c) L) ∧ Below w.heap.size w w'
theorem join2_any {X Y nx cx ny cy : Nat} {Ax Ay : Option Addr} {Lx Ly : List Nat} {w : World} (hx : Leaf w (.slice Ax nx cx) Lx) (hy : Leaf w (.slice Ay ny cy) Ly) (wx : X ≤ 1000000) (wy : Y ≤ 1000000) (h1 : 1 ≤ Lx.length) (h2 : Lx.length + Ly.length ≤ 1000) :
    Calls Try.prog 138 #[.agg #[.int .i64 (X : Int), .slice Ax nx cx], .agg #[.int .i64 (Y : Int), .slice Ay ny cy]] w (Join2Post X Y (Lx ++ Ly) w) := by
  refine (join_any (X, .slice Ax nx cx, Lx) (Y, .slice Ay ny cy, Ly) w hx hy wx wy h1 h2).mono ?_
  rintro e w1 ⟨v, rfl, hl, hk, hb⟩
  have hl2 := hl
  obtain ⟨b, o, c, rfl, _⟩ := hl2
  exact ⟨X + Y, b, o, _, c, rfl, ⟨rfl, rfl, hk b rfl, hl⟩, hb⟩
/-- An append of one branch: to the same place, or in new memory. -/
theorem run_app_br {W : World} {b off cap n N x nv cv : Nat} {Av : Option Addr} {R : List Br} {L : List Nat} {ty : TypeId} (hq : QB W b off cap R) (hn : n = R.length) (hN : W.heap.size = N) (hlen : R.length ≤ 1000) :
    ∃ (b' off' cap' : Nat) (w' : World), (Builtin.append_ #[156, 156] ty #[.slice (some ⟨b, off, none⟩) n cap, .slice (some ⟨N, 0, none⟩) 1 1]).run Try.prog (W.alloc (.cells #[.int .i64 (x : Int), .slice Av nv cv] 160)) =
      .ok (.slice (some ⟨b', off', none⟩) (n + 1) cap') w' ∧ Hid (QB w' b' off' cap' (R ++ [(x, .slice Av nv cv, L)]) ∧ (b' = b ∨ W.heap.size ≤ b') ∧ W.grownBy w' (some b)) := by
  subst hn; subst hN
  obtain ⟨i0, hi, hz0, hz1, hz2⟩ := info_parts Try.infoBr
  have hb1 := bl_new W (.cells #[.int .i64 (x : Int), .slice Av nv cv] 160)
  have hq1 := hq.below hb1
  have hg1 : W.grownBy (W.alloc (.cells #[.int .i64 (x : Int), .slice Av nv cv] 160)) (some b) := World.grownBy_alloc W _ _
  have hnew : ∀ j u, [Value.int .i64 (x : Int), .slice Av nv cv][j]? = some u → (W.alloc (.cells #[.int .i64 (x : Int), .slice Av nv cv] 160)).cell? ((⟨W.heap.size, 0, none⟩ : Addr).add j) = some u := by
    intro j u hj
    rw [Addr.add_lit, cell_of_row _ _ _ _ _ _ (heap_alloc_new W _), Nat.zero_add]
    simpa using hj
  have hone : ∀ u ∈ [Value.int .i64 (x : Int), .slice Av nv cv], u.oneCell' = true := fun u hu => by
    rcases List.mem_cons.1 hu with rfl | hu
    · rfl
    · obtain rfl := List.mem_singleton.1 hu
      rfl
  have hl : ∀ j d, (R ++ [((x, .slice Av nv cv, L) : Br)])[j]? = some d → (j = R.length ∧ d = (x, .slice Av nv cv, L)) ∨ R[j]? = some d := fun j d hd => by
    rcases Nat.lt_or_ge j R.length with h | h
    · rw [List.getElem?_append_left h] at hd; exact .inr hd
    · rw [List.getElem?_append_right h] at hd
      have h1 : j - R.length < 1 := (List.getElem?_eq_some_iff.1 hd).1
      rw [show j - R.length = 0 by omega] at hd
      injection hd with hd
      exact .inl ⟨by omega, hd.symm⟩
  by_cases hr : R.length + 1 ≤ cap
  · have hrun := run_append_room_cells (P := Try.prog) (W.alloc (.cells #[.int .i64 (x : Int), .slice Av nv cv] 160)) 156 ty 160 i0 Try.underlying156 hi b off R.length cap ⟨W.heap.size, 0, none⟩ 1 1 [.int .i64 (x : Int), .slice Av nv cv] (by rw [hz1]; rfl) hnew hone hr
      (fun j hj => by have hj : j < 2 := hj; rw [hz1, Nat.add_assoc]; exact (hq1.room (R.length * 2 + j) (by omega)).1) (fun j hj => by have hj : j < 2 := hj; rw [hz1, Nat.add_assoc]; exact (hq1.room (R.length * 2 + j) (by omega)).2)
    rw [hz1] at hrun
    refine ⟨b, off, cap, _, hrun, ?_, .inl rfl, ?_⟩
    · refine hq1.put R.length (x, .slice Av nv cv, L) hr (by simp; omega) fun j => ?_
      by_cases e : j = R.length
      · rw [if_pos e, e, List.getElem?_append_right (Nat.le_refl _), Nat.sub_self]; rfl
      · rw [if_neg e]
        rcases Nat.lt_or_ge j R.length with h1 | h1
        · rw [List.getElem?_append_left h1]
        · rw [List.getElem?_append_right h1, List.getElem?_eq_none (l := R) h1, List.getElem?_eq_none]
          show 1 ≤ _
          omega
    · exact gset (gset hg1)
  · obtain ⟨olds, ho⟩ : ∃ olds : List Value, olds = R.flatMap brC := ⟨_, rfl⟩
    have hol : ∀ (R : List Br), (R.flatMap brC).length = R.length * 2 := by
      intro R
      induction R with
      | nil => rfl
      | cons d R ih => rw [List.flatMap_cons, List.length_append, ih, List.length_cons]; show 2 + _ = _; omega
    have hget : ∀ (R : List Br) (k : Nat) (d : Br), R[k]? = some d → (R.flatMap brC)[k * 2]? = some (.int .i64 (d.1 : Int)) ∧ (R.flatMap brC)[k * 2 + 1]? = some d.2.1 := by
      intro R
      induction R with
      | nil => intro k d h; simp at h
      | cons d0 R ih =>
        intro k d h
        rw [List.flatMap_cons]
        match k, h with
        | 0, h => injection h with h; subst h; exact ⟨rfl, rfl⟩
        | k + 1, h =>
          have := ih k d h
          have e : brC d0 = [.int .i64 (d0.1 : Int), d0.2.1] := rfl
          rw [e, show (k + 1) * 2 = k * 2 + 1 + 1 by omega]
          exact this
    have hold : ∀ j u, olds[j]? = some u → (W.alloc (.cells #[.int .i64 (x : Int), .slice Av nv cv] 160)).cell? ((⟨b, off, none⟩ : Addr).add j) = some u := by
      intro j u hj
      rw [ho] at hj
      have hj2 : j < R.length * 2 := by rw [← hol R]; exact (List.getElem?_eq_some_iff.1 hj).1
      have hk : j / 2 < R.length := by omega
      obtain ⟨h1, h2⟩ := hget R (j / 2) R[j / 2] (List.getElem?_eq_getElem hk)
      obtain ⟨h3, h4⟩ := hq1.at_ (j / 2) R[j / 2] (List.getElem?_eq_getElem hk)
      rw [Addr.add_lit]
      rcases Nat.mod_two_eq_zero_or_one j with hm | hm
      · have e : j / 2 * 2 = j := by omega
        rw [e] at h1 h3
        rw [h3, ← h1, hj]
      · have e : j / 2 * 2 + 1 = j := by omega
        rw [e] at h2
        rw [Nat.add_assoc, e] at h4
        rw [h4, ← h2, hj]
    obtain ⟨v', w', hrun, r1, r2⟩ := run_append_arg_grows (P := Try.prog) (W.alloc (.cells #[.int .i64 (x : Int), .slice Av nv cv] 160)) 156 ty 160 i0 (.agg #[.int .i64 0, .slice none 0 0]) 2 32 Try.underlying156 hi hz0 hz1 hz2 rfl (by decide) ⟨b, off, none⟩ R.length cap olds (by rw [ho, hol]) hold ⟨W.heap.size, 0, none⟩ 1 1 [.int .i64 (x : Int), .slice Av nv cv] rfl hnew (by omega) (by unfold maxLen; omega) (by omega)
    have e2 : olds ++ [.int .i64 (x : Int), .slice Av nv cv] = (R ++ [((x, .slice Av nv cv, L) : Br)]).flatMap brC := by rw [ho, List.flatMap_append]; rfl
    rw [e2] at r1
    have hcellR := fun g cap' (e : v' = .slice (some ⟨g, 0, none⟩) (R.length + 1) cap') (k : Nat) (hk : k < ((R ++ [((x, .slice Av nv cv, L) : Br)]).flatMap brC).length) => World.ownsRow.cellAt (e ▸ r1) k (by have h := hk; rw [hol] at h; simp at h; omega)
    rcases r1.2 with ⟨_, e0⟩ | ⟨g, cap', cur, rfl, k1, k2, k3, k4, k5, k6⟩
    · omega
    · refine ⟨g, 0, cap', w', hrun, ⟨?_, by simpa using k3, fun k d hd => ?_, fun j hj => ?_⟩, .inr (Nat.le_trans hb1.size k1), ?_⟩
      · exact (Array.getElem?_eq_some_iff.1 k2).1
      · obtain ⟨h1, h2⟩ := hget _ k d hd
        have hk1 := (List.getElem?_eq_some_iff.1 h2).1
        rw [Nat.zero_add, hcellR g cap' rfl (k * 2) (by omega), hcellR g cap' rfl (k * 2 + 1) hk1]
        exact ⟨by rw [← h1, List.getElem?_eq_getElem (by omega)], by rw [← h2, List.getElem?_eq_getElem hk1]⟩
      · have hrow : w'.rowIs g 160 (cap' * 2) (fun j => cur[j]?.getD default) := ⟨cur, k2, k5, fun j hj => by
          show cur[j]? = some (cur[j]?.getD default)
          rw [Array.getElem?_eq_getElem (by omega)]; rfl⟩
        rw [Nat.zero_add]
        exact ⟨by rw [hrow.cell hj]; rfl, hrow.frozen j⟩
      · exact ⟨r2.os.trans hg1.os, r2.tape.trans hg1.tape, r2.output.trans hg1.output, Nat.le_trans hg1.size r2.size, fun k hk hne => (r2.block k (Nat.lt_of_lt_of_le hk hb1.size) (by simp)).trans (hg1.block k hk hne)⟩
/-- The same inside a statement whose order is drawn. -/
theorem step_app_br {ops : Array Oper} {o : Oper} {a : Act} {K : Act → World → Prop} {Q : Exit → Act → World → Prop} {E : Prop} {W : World} {b off cap n N x nv cv : Nat} {Av : Option Addr} {R : List Br} (L : List Nat) (hgd : o.guard = none) (s z : Operand)
    (ho : o.op = .call { callee := .builtin .append, args := #[s, z], argTypes := #[156, 156] })
    (hs : a.eval s = .slice (some ⟨b, off, none⟩) n cap) (hx : a.eval z = .slice (some ⟨N, 0, none⟩) 1 1)
    (hq : QB W b off cap R) (hn : n = R.length) (hN : W.heap.size = N) (hlen : R.length ≤ 1000)
    (h : ∀ b' off' cap' w', Hid (QB w' b' off' cap' (R ++ [(x, .slice Av nv cv, L)]) ∧ (b' = b ∨ W.heap.size ≤ b') ∧ W.grownBy w' (some b)) → K (a.put o.dst (.slice (some ⟨b', off', none⟩) (n + 1) cap')) w') :
    if Region.wanted o (yielded ops a.tmps) = true then Oper.wp Try.prog o a (W.alloc (.cells #[.int .i64 (x : Int), .slice Av nv cv] 160)) K Q else E := by
  have hw : Region.wanted o (yielded ops a.tmps) = true := by simp [Region.wanted, hgd]
  rw [if_pos hw]
  obtain ⟨b', off', cap', w', hrun, hh⟩ := run_app_br (x := x) (nv := nv) (cv := cv) (Av := Av) (L := L) (ty := o.type) hq hn hN hlen
  unfold Oper.wp
  simp [execOp, ho, resolve, invoke, builtin, hs, hx, hrun, Result.andThen]
  exact h b' off' cap' w' hh
/-- What stands at the head of the loop. -/
structure DAt (wt : Nat → Nat) (n B0 B1 bb off cap : Nat) (D : List Br) (l : Nat → Nat) (w0 w : World) : Prop where
  q : QB w bb off cap D
  lv : LvOk B1 bb w D
  way : Hm.Way wt n (D.map nd) l
  row : w.rowIs B0 3 n (fun j => .int .i64 ((l j : Nat) : Int))
  lo : B1 ≤ bb
  b01 : B0 < B1
  below : Below B0 w0 w
/-- What stands when the branches are in order, the first two x and y. -/
structure SAt (wt : Nat → Nat) (n B0 B1 bb off cap : Nat) (D : List Br) (x y : Br) (R : List Br) (l : Nat → Nat) (w0 w : World) : Prop where
  q : QB w bb off cap (x :: y :: R)
  lv : LvOk B1 bb w (x :: y :: R)
  way : Hm.Way wt n (D.map nd) l
  ord : Hm.isort (D.map nd) = nd x :: nd y :: R.map nd
  row : w.rowIs B0 3 n (fun j => .int .i64 ((l j : Nat) : Int))
  lo : B1 ≤ bb
  b01 : B0 < B1
  below : Below B0 w0 w
theorem DAt.ok {wt : Nat → Nat} {n B0 B1 bb off cap : Nat} {D : List Br} {l : Nat → Nat} {w0 w : World} (h : DAt wt n B0 B1 bb off cap D l w0 w) (hw : ∀ k, k < n → wt k ≤ 10000) (hn : n ≤ 12) : (∀ d ∈ D, BrOk d) ∧ D.length ≤ 12 := by
  have hl := h.way.2.1
  rw [List.length_map] at hl
  refine ⟨h.lv.ok fun d hd => ?_, by omega⟩
  have := h.way.1.wt hw (t := nd d) (List.mem_map_of_mem hd)
  have e : (nd d).1 = d.1 := rfl
  rw [e] at this
  omega
theorem DAt.sorted {wt : Nat → Nat} {n B0 B1 bb off cap : Nat} {D : List Br} {l : Nat → Nat} {w0 w w' : World} (h : DAt wt n B0 B1 bb off cap D l w0 w) (hs : SS w bb off cap (Hm.isort D) w') (h2 : 2 ≤ D.length) (hB : B0 < w.heap.size) :
    ∃ x y R, R.length + 2 = D.length ∧ SAt wt n B0 B1 bb off cap D x y R l w0 w' := by
  have hlen := Hm.isort_len D
  have hp := Hm.isort_perm D
  have hmap := Hm.isort_map (f := nd) (fun _ => rfl) D
  have hlo := h.lo
  have h01 := h.b01
  match hi : Hm.isort D with
  | [] => rw [hi] at hlen; simp at hlen; omega
  | [_] => rw [hi] at hlen; simp at hlen; omega
  | x :: y :: R =>
    rw [hi] at hlen hp hmap hs
    refine ⟨x, y, R, by simpa using hlen, hs.1, fun d hd => ?_, h.way, hmap.symm, h.row.of_block (hs.2.block B0 hB (by intro e; injection e with e; omega)), h.lo, h.b01, ?_⟩
    · exact h.lv.grown hs.2 d (hp.mem_iff.1 hd)
    · exact h.below.grown hs.2 (by omega) fun k hk => by injection hk with hk; omega
theorem SAt.small {wt : Nat → Nat} {n B0 B1 bb off cap : Nat} {D : List Br} {x y : Br} {R : List Br} {l : Nat → Nat} {w0 w : World} (h : SAt wt n B0 B1 bb off cap D x y R l w0 w) (hw : ∀ k, k < n → wt k ≤ 10000) (hn : n ≤ 12) : x.1 ≤ 1000000 ∧ y.1 ≤ 1000000 ∧ 1 ≤ x.2.2.length ∧ x.2.2.length + y.2.2.length ≤ 1000 := by
  have hp := Hm.isort_perm (D.map nd)
  rw [h.ord] at hp
  have hx : nd x ∈ D.map nd := hp.mem_iff.1 List.mem_cons_self
  have hy : nd y ∈ D.map nd := hp.mem_iff.1 (List.mem_cons_of_mem _ List.mem_cons_self)
  have a1 := h.way.1.wt hw hx
  have a2 := h.way.1.wt hw hy
  have b1 := h.way.1.leaf hx
  have b2 := h.way.1.leaf hy
  have e1 : (nd x).1 = x.1 := rfl
  have e2 : (nd y).1 = y.1 := rfl
  have e3 : (nd x).2 = x.2.2 := rfl
  have e4 : (nd y).2 = y.2.2 := rfl
  rw [e1] at a1
  rw [e2] at a2
  rw [e3] at b1
  rw [e4] at b2
  omega
/-- The leaves of the first two: unlike, each below n and less than n deep. -/
theorem SAt.leaves {wt : Nat → Nat} {n B0 B1 bb off cap : Nat} {D : List Br} {x y : Br} {R : List Br} {l : Nat → Nat} {w0 w : World} (h : SAt wt n B0 B1 bb off cap D x y R l w0 w) (hn : n ≤ 12) : (x.2.2 ++ y.2.2).Nodup ∧ (∀ i ∈ x.2.2 ++ y.2.2, i < n ∧ l i ≤ 12) ∧ (x.2.2 ++ y.2.2).length ≤ 12 := by
  have hnx := h.way.1.next h.ord
  have hm : ((nd x).1 + (nd y).1, (nd x).2 ++ (nd y).2) ∈ R.map nd ++ [((nd x).1 + (nd y).1, (nd x).2 ++ (nd y).2)] := List.mem_append_right _ (List.mem_singleton.2 rfl)
  obtain ⟨h1, h2, h3, _⟩ := hnx.leaf hm
  refine ⟨h1, fun i hi => ⟨h2 i hi, ?_⟩, Nat.le_trans h3 hn⟩
  have := h.way.1.dep (h2 i hi)
  omega
end Go.Proofs.Ytapjodbaaejldaa


/-
The contract of tree.depths: the walk.
-/
namespace Go.Proofs.Ytapjodbaaejldaa
open Go.RowKit

/-- Behind 'both := join(..)'. -/
def BothAt (X Y : Nat) (L : List Nat) (N Z b8 o8 n8 k8 : Nat) (w w' : World) : Prop :=
  w'.cell? ⟨N, 0, none⟩ = some (.int .i64 (Z : Int)) ∧ w'.cell? ⟨N, 1, none⟩ = some (.slice (some ⟨b8, o8, none⟩) n8 k8) ∧ Z = X + Y ∧ n8 = L.length ∧ w.heap.size ≤ b8 ∧ w.heap.size ≤ N ∧ N < w'.heap.size ∧ Leaf w' (.slice (some ⟨b8, o8, none⟩) n8 k8) L ∧ Below w.heap.size w w'
theorem bset2 {w w' : World} {N : Nat} {u v : Value} (h : Below N w w') : Below N w ((w'.setCell ⟨N, 0, none⟩ u).setCell ⟨N, 1, none⟩ v) :=
  ⟨h.os, h.tape, h.output, by simpa using h.size, fun k hk => ((Below.heap_setCell _ _ _ k (by show k ≠ N; omega)).trans (Below.heap_setCell _ _ _ k (by show k ≠ N; omega))).trans (h.block k hk)⟩
theorem new2 {w w' : World} {u v : Value} {t : TypeId} (hb : Below (w.alloc (.cells #[u, v] t)).drew.heap.size (w.alloc (.cells #[u, v] t)).drew w') :
    w'.cell? ⟨w.heap.size, 0, none⟩ = some u ∧ w'.cell? ⟨w.heap.size, 1, none⟩ = some v ∧ w'.frozen? ⟨w.heap.size, 0, none⟩ = false ∧ w'.frozen? ⟨w.heap.size, 1, none⟩ = false := by
  have hlt : w.heap.size < (w.alloc (.cells #[u, v] t)).drew.heap.size := by simp
  have e : w'.heap[w.heap.size]? = (w.alloc (.cells #[u, v] t)).heap[w.heap.size]? := hb.block _ hlt
  refine ⟨?_, ?_, ?_, ?_⟩
  · rw [World.cell?_of_block (w := w.alloc (.cells #[u, v] t)) (a := ⟨w.heap.size, 0, none⟩) e, cell_of_row _ _ _ _ _ _ (heap_alloc_new _ _)]; rfl
  · rw [World.cell?_of_block (w := w.alloc (.cells #[u, v] t)) (a := ⟨w.heap.size, 1, none⟩) e, cell_of_row _ _ _ _ _ _ (heap_alloc_new _ _)]; rfl
  · rw [World.frozen?_of_block (w := w.alloc (.cells #[u, v] t)) (a := ⟨w.heap.size, 0, none⟩) e, World.frozen?_alloc_at _ _ _ _ rfl]
  · rw [World.frozen?_of_block (w := w.alloc (.cells #[u, v] t)) (a := ⟨w.heap.size, 1, none⟩) e, World.frozen?_alloc_at _ _ _ _ rfl]
theorem both_a {X Y Z b8 o8 n8 k8 : Nat} {L : List Nat} {w2 w8 : World} {t : TypeId} (hb : Below w2.heap.size w2 w8) (h : Hid (Z = X + Y ∧ n8 = L.length ∧ w2.drew.heap.size ≤ b8 ∧ Leaf w8 (.slice (some ⟨b8, o8, none⟩) n8 k8) L)) :
    BothAt X Y L w8.heap.size Z b8 o8 n8 k8 w2 (w8.alloc (.cells #[.int .i64 (Z : Int), .slice (some ⟨b8, o8, none⟩) n8 k8] t)) := by
  obtain ⟨h1, h2, h3, h4⟩ := h.out
  have hb1 := bl_new w8 (.cells #[.int .i64 (Z : Int), .slice (some ⟨b8, o8, none⟩) n8 k8] t)
  refine ⟨?_, ?_, h1, h2, h3, hb.size, by simp, h4.below hb1, bl_then hb hb1⟩
  · rw [cell_of_row _ _ _ _ _ _ (heap_alloc_new _ _)]; rfl
  · rw [cell_of_row _ _ _ _ _ _ (heap_alloc_new _ _)]; rfl
theorem both_b {X Y Z b8 o8 n8 k8 : Nat} {L : List Nat} {w2 w8 : World} {o : Obj} {u v : Value} (hb : Below w2.heap.size w2 w8) (hsz : (w2.alloc o).drew.heap.size ≤ w8.heap.size) (h : Hid (Z = X + Y ∧ n8 = L.length ∧ (w2.alloc o).drew.heap.size ≤ b8 ∧ Leaf w8 (.slice (some ⟨b8, o8, none⟩) n8 k8) L)) (g5 : w8.cell? ⟨w2.heap.size, 0, none⟩ = some u) (g6 : w8.cell? ⟨w2.heap.size, 1, none⟩ = some v) :
    BothAt X Y L w2.heap.size Z b8 o8 n8 k8 w2 ((w8.setCell ⟨w2.heap.size, 0, none⟩ (.int .i64 (Z : Int))).setCell ⟨w2.heap.size, 1, none⟩ (.slice (some ⟨b8, o8, none⟩) n8 k8)) := by
  obtain ⟨h1, h2, h3, h4⟩ := h.out
  have e : (w2.alloc o).drew.heap.size = w2.heap.size + 1 := by simp
  rw [e] at h3 hsz
  have e6 : (w8.setCell ⟨w2.heap.size, 0, none⟩ (.int .i64 (Z : Int))).cell? ⟨w2.heap.size, 1, none⟩ = some v := (World.cell?_setCell_other _ _ _ _ (by intro h; injection h with _ h; cases h)).trans g6
  refine ⟨?_, ?_, h1, h2, by omega, Nat.le_refl _, by simp; omega, h4.keep (by simp) fun k hk => ?_, bset2 hb⟩
  · rw [World.cell?_setCell_other _ _ _ _ (by intro h; injection h with _ h; cases h), World.cell?_setCell_same _ _ _ g5]
  · rw [World.cell?_setCell_same _ _ _ e6]
  · injection hk with hk
    have hk : b8 = k := hk
    exact (Below.heap_setCell _ _ _ k (by show k ≠ w2.heap.size; omega)).trans (Below.heap_setCell _ _ _ k (by show k ≠ w2.heap.size; omega))
/-- The leaves of the two are let down, k of them so far. -/
def InAt (n B0 : Nat) (L : List Nat) (l : Nat → Nat) (k : Nat) (wc wr : World) : Prop :=
  wr.rowIs B0 3 n (fun j => .int .i64 ((Hm.deep (L.take k) l j : Nat) : Int)) ∧ wc.grownBy wr (some B0)
theorem InAt.start {n B0 : Nat} {L : List Nat} {l : Nat → Nat} {w2 wc : World} (hr : w2.rowIs B0 3 n (fun j => .int .i64 ((l j : Nat) : Int))) (hb : Below w2.heap.size w2 wc) : InAt n B0 L l 0 wc wc :=
  ⟨(hr.of_block (hb.block B0 hr.lt)).congr fun j _ => by rw [List.take_zero, Hm.deep_out (by simp)], World.grownBy.refl _ _⟩
theorem InAt.next {n B0 k : Nat} {L : List Nat} {l : Nat → Nat} {wc wr : World} {i v : Nat} (h : InAt n B0 L l k wc wr) (hL : L.Nodup) (hk : L[k]? = some i) (hi : i < n) (hv : v = l i + 1) :
    wr.cell? ⟨B0, i, none⟩ = some (.int .i64 ((l i : Nat) : Int)) ∧ wr.frozen? ⟨B0, i, none⟩ = false ∧ InAt n B0 L l (k + 1) wc (wr.setCell ⟨B0, i, none⟩ (.int .i64 (v : Int))) := by
  obtain ⟨hr, hg⟩ := h
  have htk : L.take (k + 1) = L.take k ++ [i] := by rw [List.take_add_one, hk]; rfl
  have hnot : i ∉ L.take k := by
    have : (L.take (k + 1)).Nodup := hL.sublist (List.take_sublist _ _)
    rw [htk] at this
    intro hm
    exact (List.nodup_append.1 this).2.2 i hm i (List.mem_singleton.2 rfl) rfl
  refine ⟨?_, hr.frozen i, (hr.set i (.int .i64 (v : Int))).congr fun j hj => ?_, gset hg⟩
  · have := hr.cell hi
    rwa [Hm.deep_out hnot] at this
  · by_cases e : j = i
    · rw [if_pos e, e, Hm.deep_in (by rw [htk]; exact List.mem_append_right _ (List.mem_singleton.2 rfl)), hv]
    · rw [if_neg e]
      by_cases hm : j ∈ L.take k
      · rw [Hm.deep_in hm, Hm.deep_in (by rw [htk]; exact List.mem_append_left _ hm)]
      · rw [Hm.deep_out hm, Hm.deep_out (by rw [htk]; intro h; rcases List.mem_append.1 h with h | h; exact hm h; exact e (List.mem_singleton.1 h))]
theorem InAt.drew {n B0 k : Nat} {L : List Nat} {l : Nat → Nat} {wc wr : World} (h : InAt n B0 L l k wc wr) : InAt n B0 L l k wc wr.drew := ⟨h.1.drew, ⟨h.2.os, h.2.tape, h.2.output, h.2.size, h.2.block⟩⟩
/-- The round's end. -/
theorem SAt.next {wt : Nat → Nat} {n B0 B1 bb off cap : Nat} {D : List Br} {x y : Br} {R : List Br} {l : Nat → Nat} {w0 w2 wc wr w' : World} {N Z b8 o8 n8 k8 b' off' cap' : Nat}
    (h : SAt wt n B0 B1 bb off cap D x y R l w0 w2) (hB : BothAt x.1 y.1 (x.2.2 ++ y.2.2) N Z b8 o8 n8 k8 w2 wc) (hI : InAt n B0 (x.2.2 ++ y.2.2) l (x.2.2 ++ y.2.2).length wc wr)
    (hq : QB w' b' off' cap' (R ++ [(Z, .slice (some ⟨b8, o8, none⟩) n8 k8, x.2.2 ++ y.2.2)])) (hb' : b' = bb ∨ wr.heap.size ≤ b') (hg : wr.grownBy w' (some bb)) :
    DAt wt n B0 B1 b' off' cap' (R ++ [(Z, .slice (some ⟨b8, o8, none⟩) n8 k8, x.2.2 ++ y.2.2)]) (Hm.deep (x.2.2 ++ y.2.2) l) w0 w' := by
  obtain ⟨_, _, hZ, _, hb8, _, _, hlf, hbw⟩ := hB
  obtain ⟨hr, hgi⟩ := hI
  rw [List.take_length] at hr
  have hlo := h.lo
  have h01 := h.b01
  have hbb := h.q.lt
  have s1 := hbw.size
  have s2 := hgi.size
  have hlf' := hlf
  obtain ⟨b9, o9, c9, e9, _, hlt9, _⟩ := hlf'
  injection e9 with e9
  injection e9 with e9
  injection e9 with e9
  subst e9
  refine ⟨hq, fun d hd => ?_, ?_, hr.of_block (hg.block B0 hr.lt (by intro e; injection e with e; omega)), ?_, h.b01, ?_⟩
  · rcases List.mem_append.1 hd with hd | hd
    · obtain ⟨hl, hk⟩ := h.lv d (List.mem_cons_of_mem _ (List.mem_cons_of_mem _ hd))
      have hl1 := ((hl.below hbw).grown hgi (by intro e; have := (hk _ e).1; omega)).grown hg fun e => (hk _ e).2 rfl
      refine ⟨hl1, fun k e => ⟨(hk k e).1, ?_⟩⟩
      have a1 := (hk k e).2
      have a2 := hl.lt k e
      omega
    · obtain rfl := List.mem_singleton.1 hd
      refine ⟨(hlf.grown hgi (by intro e; injection e with e; have e : b8 = B0 := e; omega)).grown hg (by intro e; injection e with e; have e : b8 = bb := e; omega), fun k e => ?_⟩
      injection e with e
      have e : b8 = k := e
      omega
  · have := h.way.next h.ord
    rw [List.map_append]
    rw [hZ]
    exact this
  · omega
  · have hb1 : Below B0 w0 wc := h.below.trans (hbw.mono (by omega))
    have hb2 : Below B0 w0 wr := hb1.grown hgi (by omega) fun k e => by injection e with e; omega
    exact hb2.grown hg (by omega) fun k e => by injection e with e; omega
def DepthPost (n : Nat) (g : Nat → Int) (w : World) (e : Ending) (w' : World) : Prop := ∃ A c, e = .returned (.slice A n c) ∧ n ≤ c ∧ IRow w' A n g ∧ Below w.heap.size w w'
set_option maxRecDepth 100000 in
set_option maxHeartbeats 2000000 in
theorem depths_any {A : Option Addr} {n c : Nat} {gw : Nat → Int} {wt : Nat → Nat} (w : World) (h : IRow w A n gw) (hg : ∀ k, k < n → gw k = ((wt k : Nat) : Int)) (hw : ∀ k, k < n → wt k ≤ 10000) (hn : n ≤ 12) :
    Calls Try.prog 109 #[.slice A n c] w (DepthPost n (fun k => ((Hm.hdep wt n k : Nat) : Int)) w) := by
  have hmk := run_make_row' (P := Try.prog) 53 3 (.int .i64 0) 8 Try.underlying53 Try.infoInt rfl .i64 .i64 n (by omega) (by omega) w
  have hmade := World.rowIs_made w (.int .i64 0) n 3
  have hb0 := bl_new w (.cells (madeCells #[.int .i64 0] n) 3)
  have hL := leaves_any (c := c) _ (h.keep hb0) hg hn
  generalize w.alloc (.cells (madeCells #[.int .i64 0] n) 3) = w0 at hmk hmade hb0 hL
  have HW := hid hw
  clear h hg hw
  go_enter Try.func109, Try.ntmps109
  go_wp2_with fail
  with_reducible refine hL.mono ?_
  rintro e w1 ⟨D0, rfl, hD0, hq0, hl0, hb1⟩
  have hr1 : w1.rowIs w.heap.size 3 n (fun _ => .int .i64 ((0 : Nat) : Int)) := hmade.of_block (hb1.block _ hmade.lt)
  have hlen0 : D0.length = n := by
    have := congrArg List.length hD0
    rwa [List.length_map, Hm.hstart_len] at this
  have H1 : Hid (DAt wt n w.heap.size w0.heap.size w0.heap.size 0 n D0 (fun _ => 0) w w1) :=
    ⟨hq0, hl0, by rw [hD0]; exact Hm.Way.start wt n, hr1, Nat.le_refl _, hmade.lt, bl_then hb0 hb1⟩
  have HB0 := hid hmade.lt
  have HL0 := hid hlen0
  clear hL hmk hmade hb0 hD0 hq0 hl0 hb1 hr1 hlen0
  generalize w0.heap.size = B1 at H1 HB0
  go_wp2
  go_loopg [4] n (fun g x wr => ∃ (bb off cap : Nat) (D : List Br) (l : Nat → Nat), x = .slice (some ⟨bb, off, none⟩) g cap ∧ Hid (g = D.length) ∧ Hid (DAt wt n w.heap.size B1 bb off cap D l w wr))
  case atStart => exact ⟨B1, 0, n, D0, fun _ => 0, rfl, HL0.out.symm, H1⟩
  case round =>
    clear H1 HL0
    obtain ⟨bb, off, cap, D, l, rfl, HG, HD⟩ := hrel
    obtain ⟨hOk, hD12⟩ := HD.out.ok HW.out hn
    rw [← HG.out] at hD12
    by_cases h2 : 2 ≤ gk
    · have h2' : (1 : Int) < (gk : Int) := by omega
      have hS := sortB_any bb off cap gk D wr hOk HD.out.q HG.out.symm (by omega)
      have HO := hid hOk
      clear hOk
      go_wp2_with fail
      with_reducible refine hS.mono ?_
      rintro e w2 ⟨rfl, hs2⟩
      have hB0r : w.heap.size < wr.heap.size := by have := HD.out.row.lt; exact this
      obtain ⟨x, y, R, hR, hSA⟩ := HD.out.sorted hs2 (by rw [← HG.out]; exact h2) hB0r
      rw [← HG.out] at hR
      have HS := hid hSA
      have HR := hid hR
      clear hS hs2 HD HO hSA hB0r
      obtain ⟨X, xv, Lx⟩ := x
      obtain ⟨Y, yv, Ly⟩ := y
      have hxl : Leaf w2 xv Lx := (HS.out.lv (X, xv, Lx) List.mem_cons_self).1
      have hyl : Leaf w2 yv Ly := (HS.out.lv (Y, yv, Ly) (List.mem_cons_of_mem _ List.mem_cons_self)).1
      have hxs : ∃ A n c, xv = .slice A n c := by obtain ⟨b, o, c, h, _⟩ := hxl; exact ⟨_, _, _, h⟩
      have hys : ∃ A n c, yv = .slice A n c := by obtain ⟨b, o, c, h, _⟩ := hyl; exact ⟨_, _, _, h⟩
      obtain ⟨Ax, nx, cx, rfl⟩ := hxs
      obtain ⟨Ay, ny, cy, rfl⟩ := hys
      obtain ⟨hX, hY, hx1, hxy⟩ := HS.out.small HW.out hn
      have HC : Hid (∀ W, Below w2.heap.size w2 W → Calls Try.prog 138 #[.agg #[.int .i64 (X : Int), .slice Ax nx cx], .agg #[.int .i64 (Y : Int), .slice Ay ny cy]] W (Join2Post X Y (Lx ++ Ly) W)) :=
        fun W hW => join2_any (hxl.below hW) (hyl.below hW) hX hY hx1 hxy
      have c1 : w2.cell? ⟨bb, off, none⟩ = some (.int .i64 (X : Int)) := by have := (HS.out.q.at_ 0 _ rfl).1; rwa [Nat.zero_mul, Nat.add_zero] at this
      have c2 : w2.cell? ⟨bb, off + 1, none⟩ = some (.slice Ax nx cx) := by have := (HS.out.q.at_ 0 _ rfl).2; rwa [Nat.zero_mul, Nat.add_zero] at this
      have c3 : w2.cell? ⟨bb, off + 2, none⟩ = some (.int .i64 (Y : Int)) := by have := (HS.out.q.at_ 1 _ rfl).1; rwa [Nat.one_mul] at this
      have c4 : w2.cell? ⟨bb, off + 2 + 1, none⟩ = some (.slice Ay ny cy) := by have := (HS.out.q.at_ 1 _ rfl).2; rwa [Nat.one_mul] at this
      have hbb := HS.out.q.lt
      have h0D : (0 : Int) < (gk : Int) := by omega
      have h0N : 0 < gk := by omega
      clear hxl hyl hX hY hx1 hxy
      go_wp2_with fail
      go_cut [5] from 13 to 43 (fun p wx => ∃ N Z b8 o8 n8 k8 : Nat, p = .pointer (some ⟨N, 0, none⟩) ∧ Hid (BothAt X Y (Lx ++ Ly) N Z b8 o8 n8 k8 w2 wx))
      case first =>
        have KC : ∀ W, Below w2.heap.size w2 W → W.cell? ⟨bb, off, none⟩ = some (.int .i64 (X : Int)) ∧ W.cell? ⟨bb, off + 1, none⟩ = some (.slice Ax nx cx) ∧ W.cell? ⟨bb, off + 2, none⟩ = some (.int .i64 (Y : Int)) ∧ W.cell? ⟨bb, off + 2 + 1, none⟩ = some (.slice Ay ny cy) := fun W hW =>
          ⟨(hW.cell (p := ⟨bb, off, none⟩) hbb).trans c1, (hW.cell (p := ⟨bb, off + 1, none⟩) hbb).trans c2, (hW.cell (p := ⟨bb, off + 2, none⟩) hbb).trans c3, (hW.cell (p := ⟨bb, off + 2 + 1, none⟩) hbb).trans c4⟩
        have hDr : Below w2.heap.size w2 w2.drew := bl_drewN (Below.refl _ _) 1
        have hA : ∀ o, Below w2.heap.size w2 (w2.alloc o).drew := fun o => bl_drewN (bl_new w2 o) 1
        go_region_held3 (fun W => W.cell? ⟨bb, off, none⟩ = some (.int .i64 (X : Int)) ∧ W.cell? ⟨bb, off + 1, none⟩ = some (.slice Ax nx cx) ∧ W.cell? ⟨bb, off + 2, none⟩ = some (.int .i64 (Y : Int)) ∧ W.cell? ⟨bb, off + 2 + 1, none⟩ = some (.slice Ay ny cy)) (first | exact ⟨c1, c2, c3, c4⟩ | exact KC _ (hA _) | exact KC _ hb9 | exact KC _ (bl_then hb9 (bl_new _ _)) | exact KC _ (bset2 hb9) | (trace_state; fail)) (first | (go_at_call 138; (with_reducible refine (HC.out _ hDr).mono ?_); rintro e w8 ⟨Z, b8, o8, n8, k8, rfl, H8, hb8⟩; have hb9 : Below w2.heap.size w2 w8 := bl_then hDr hb8) | (go_at_call 138; (with_reducible refine (HC.out _ (hA _)).mono ?_); rintro e w8 ⟨Z, b8, o8, n8, k8, rfl, H8, hb8⟩; have hb9 : Below w2.heap.size w2 w8 := bl_then (hA _) hb8; obtain ⟨g5, g6, g7, g8⟩ := new2 hb8))
        all_goals (go_wp2_with fail)
        all_goals go_meet
        all_goals first | exact ⟨_, Z, b8, o8, n8, k8, rfl, both_a hb9 H8⟩ | exact ⟨_, Z, b8, o8, n8, k8, rfl, both_b hb9 hb8.size H8 g5 g6⟩
      case rest =>
        obtain ⟨N, Z, b8, o8, n8, k8, rfl, HBo⟩ := hcut
        obtain ⟨q1, q2, -, hn8, -, -, -, hlf, -⟩ := HBo.out
        have HN8 := hid hn8
        have HI0 := hid (InAt.start (L := Lx ++ Ly) HS.out.row HBo.out.2.2.2.2.2.2.2.2)
        have hNB : N ≠ w.heap.size := by
          have a1 := HBo.out.2.2.2.2.2.1
          have a2 := HS.out.lo
          have a3 := HS.out.b01
          omega
        have hbB : b8 ≠ w.heap.size := by
          have a1 := HBo.out.2.2.2.2.1
          have a2 := HS.out.lo
          have a3 := HS.out.b01
          omega
        have HLf := hid hlf
        have HLO := hid (HS.out.leaves hn)
        have hn12 : n8 ≤ 12 := by rw [hn8]; exact HLO.out.2.2
        clear c1 c2 c3 c4 hn8 hlf HC
        go_wp2
        go_loopw [28] (fun y wr => ∃ k : Nat, k ≤ n8 ∧ y = .int .i64 (k : Int) ∧ Hid (InAt n w.heap.size (Lx ++ Ly) l k wc wr)) (fun y _ => n8 - (intOf y).toNat)
        case atStart => exact ⟨0, by omega, rfl, HI0⟩
        case round =>
          clear HI0
          obtain ⟨k, hk, rfl, HI⟩ := hrel
          by_cases hkl : k < n8
          · have hkl' : (k : Int) < (n8 : Int) := by omega
            obtain ⟨i, hi⟩ : ∃ i, (Lx ++ Ly)[k]? = some i := ⟨_, List.getElem?_eq_getElem (by rw [← HN8.out]; exact hkl)⟩
            obtain ⟨hin, hil⟩ := HLO.out.2.1 i (List.mem_of_getElem? hi)
            obtain ⟨r1, r2, hnx⟩ := HI.out.next (v := l i + 1) HLO.out.1 hi hin rfl
            have hlr : wr.cell? ⟨b8, o8 + k, none⟩ = some (.int .i64 (i : Int)) := by
              obtain ⟨b9, o9, c9, e9, _, hlt9, hc9⟩ := HLf.out
              injection e9 with e9
              injection e9 with e9
              injection e9 with e9 e10
              subst e9; subst e10
              have := hc9 k i hi
              rwa [← World.cell?_of_block (w' := wr) (a := ⟨b8, o8 + k, none⟩) (HI.out.2.block b8 hlt9 (by intro e; injection e with e; exact hbB e))] at this
            have HNX := hid hnx
            have hin' : (i : Int) < (n : Int) := by omega
            have hi0 : (0 : Int) ≤ (i : Int) := by omega
            clear hnx hi HI
            generalize l i = li at r1 hil HNX
            go_wp2
            go_roundw
            case measure => simp [intOf]; omega
            case rel => exact ⟨k + 1, by omega, by go_num, HNX⟩
          · have hdk : decide ((k : Int) < (n8 : Int)) = false := decide_eq_false (by omega)
            obtain rfl : n8 = k := by omega
            have q3 : wr.cell? ⟨N, 0, none⟩ = some (.int .i64 (Z : Int)) := by
              rw [← q1]
              exact World.cell?_of_block (a := ⟨N, 0, none⟩) (HI.out.2.block N HBo.out.2.2.2.2.2.2.1 (by intro e; injection e with e; exact hNB e))
            have q4 : wr.cell? ⟨N, 1, none⟩ = some (.slice (some ⟨b8, o8, none⟩) n8 k8) := by
              rw [← q2]
              exact World.cell?_of_block (a := ⟨N, 1, none⟩) (HI.out.2.block N HBo.out.2.2.2.2.2.2.1 (by intro e; injection e with e; exact hNB e))
            have hqb : QB wr bb off cap ((X, .slice Ax nx cx, Lx) :: (Y, .slice Ay ny cy, Ly) :: R) :=
              (HS.out.q.below HBo.out.2.2.2.2.2.2.2.2).keep HI.out.2.size (HI.out.2.block bb (Nat.lt_of_lt_of_le hbb HBo.out.2.2.2.2.2.2.2.2.size) (by
                have a2 := HS.out.lo
                have a3 := HS.out.b01
                intro e; injection e with e; omega))
            have hcap := hqb.le
            have hqt := hqb.tail
            obtain ⟨o2, ho2, hq2⟩ : ∃ o2, (if cap = 2 then some (⟨bb, off, none⟩ : Addr) else some ⟨bb, off + 4, none⟩) = some ⟨bb, o2, none⟩ ∧ QB wr bb o2 (cap - 2) R := by
              by_cases h : cap = 2
              · rw [if_pos h] at hqt; exact ⟨off, by rw [if_pos h], hqt⟩
              · rw [if_neg h] at hqt; exact ⟨off + 4, by rw [if_neg h], hqt⟩
            have hg2 : gk - 2 = R.length := by have := HR.out; omega
            have hcg : gk ≤ cap := by have := HR.out; simp at hcap; omega
            have HQ2 := hid hq2
            have HQR := hid hg2
            clear hqb hcap hqt q1 q2 hq2 hg2
            have h2g : (2 : Int) ≤ (gk : Int) := by omega
            have hR1000 : R.length ≤ 1000 := by have := HR.out; omega
            go_wp2_with fail
            go_region_law (refine step_app_br (W := wr.drew) (Lx ++ Ly) rfl _ _ rfl (by simp [Act.eval]) (by simp [Act.eval]) (HQ2.out.drewN 1) HQR.out rfl hR1000 ?_; intro b' o' c' w' HAP)
            have HD2 := hid (HS.out.next HBo.out (by rw [← HN8.out]; exact HI.out.drew) HAP.out.1 HAP.out.2.1 HAP.out.2.2)
            go_wp2
            go_roundg (gk - 2 + 1)
            case measure => omega
            case rel => exact ⟨b', o', c', _, _, rfl, by rw [List.length_append, HQR.out]; rfl, HD2⟩
    · have hd2 : decide ((1 : Int) < (gk : Int)) = false := decide_eq_false (by omega)
      go_wp2
      go_ret
      have hD := HD.out
      refine ⟨some ⟨w.heap.size, 0, none⟩, n, rfl, Nat.le_refl _, fun k hk => ⟨w.heap.size, 0, rfl, hD.row.lt, ?_⟩, hD.below⟩
      have hl := hD.way.fin (by rw [List.length_map, ← HG.out]; omega)
      rw [Nat.zero_add, hD.row.cell hk, hl]
end Go.Proofs.Ytapjodbaaejldaa

