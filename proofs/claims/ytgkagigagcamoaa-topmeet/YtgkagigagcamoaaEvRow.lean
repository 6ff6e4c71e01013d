
/-
Rows of edits (two numbers and a string each): read ones; rows of the call's own, appending to one.
-/
import Derived.Test.YtgkagigagcamoaaEdMath
import Derived.Test.YtgkagigagcamoaaSeg6
import Derived.Deep.AppendLies
import Derived.Laws.OwnMore
namespace Go.Proofs.Ytgkagigagcamoaa
open Go.RowKit

/-- The three cells of an edit. -/
def evC (x : Es.Ev) : List Value := [.int .i64 x.a, .int .i64 x.d, .string x.s]
/-- An edit as a value. -/
def evV (x : Es.Ev) : Value := .agg #[.int .i64 x.a, .int .i64 x.d, .string x.s]
/-- What a program can hold. -/
structure EvWf (x : Es.Ev) : Prop where
  a1 : -9223372036854775808 ≤ x.a
  a2 : x.a ≤ 9223372036854775807
  d1 : -9223372036854775808 ≤ x.d
  d2 : x.d ≤ 9223372036854775807
  s1 : x.s.size ≤ maxLen
/-- The first n triples of cells at A hold the edits h 0, h 1, ..; they lie in blocks that are there. -/
def EvRow (w : World) (A : Option Addr) (n : Nat) (h : Nat → Es.Ev) : Prop :=
  ∀ k, k < n → ∃ b o, A = some ⟨b, o, none⟩ ∧ b < w.heap.size ∧ w.cell? ⟨b, o + k * 3, none⟩ = some (.int .i64 (h k).a) ∧ w.cell? ⟨b, o + k * 3 + 1, none⟩ = some (.int .i64 (h k).d) ∧ w.cell? ⟨b, o + k * 3 + 2, none⟩ = some (.string (h k).s)
theorem EvRow.keep {w w' : World} {A : Option Addr} {n : Nat} {h : Nat → Es.Ev} (hr : EvRow w A n h) (hb : Below w.heap.size w w') : EvRow w' A n h := by
  intro k hk
  obtain ⟨b, o, rfl, hlt, h1, h2, h3⟩ := hr k hk
  exact ⟨b, o, rfl, Nat.lt_of_lt_of_le hlt hb.size, (hb.cell (p := ⟨b, o + k * 3, none⟩) hlt).trans h1, (hb.cell (p := ⟨b, o + k * 3 + 1, none⟩) hlt).trans h2, (hb.cell (p := ⟨b, o + k * 3 + 2, none⟩) hlt).trans h3⟩
theorem EvRow.less {w : World} {A : Option Addr} {n m : Nat} {h : Nat → Es.Ev} (hr : EvRow w A n h) (hm : m ≤ n) : EvRow w A m h := fun k hk => hr k (by omega)
theorem EvRow.congr {w : World} {A : Option Addr} {n : Nat} {h h' : Nat → Es.Ev} (hr : EvRow w A n h) (e : ∀ k, k < n → h k = h' k) : EvRow w A n h' := by
  intro k hk
  obtain ⟨b, o, h1, h2, h3, h4, h5⟩ := hr k hk
  rw [e k hk] at h3 h4 h5
  exact ⟨b, o, h1, h2, h3, h4, h5⟩
/-- From the i-th one on. -/
theorem EvRow.from_ {w : World} {b o : Nat} {n i : Nat} {h : Nat → Es.Ev} (hr : EvRow w (some ⟨b, o, none⟩) n h) : EvRow w (some ⟨b, o + i * 3, none⟩) (n - i) (fun k => h (i + k)) := by
  intro k hk
  obtain ⟨b', o', e, hlt, h1, h2, h3⟩ := hr (i + k) (by omega)
  injection e with e
  injection e with e1 e2
  subst e1 e2
  refine ⟨b, _, rfl, hlt, ?_, ?_, ?_⟩
  · rw [show o + i * 3 + k * 3 = o + (i + k) * 3 by omega]; exact h1
  · rw [show o + i * 3 + k * 3 = o + (i + k) * 3 by omega]; exact h2
  · rw [show o + i * 3 + k * 3 = o + (i + k) * 3 by omega]; exact h3
/-- The edits of such a row. -/
def el (h : Nat → Es.Ev) (n : Nat) : List Es.Ev := (List.range n).map h
theorem el_len (h : Nat → Es.Ev) (n : Nat) : (el h n).length = n := by unfold el; simp
theorem el_succ (h : Nat → Es.Ev) (n : Nat) : el h (n + 1) = el h n ++ [h n] := by unfold el; rw [List.range_succ, List.map_append]; rfl
theorem el_drop {h : Nat → Es.Ev} {n k : Nat} (hk : k < n) : (el h n).drop k = h k :: (el h n).drop (k + 1) := by
  have hl : k < (el h n).length := by rw [el_len]; exact hk
  rw [List.drop_eq_getElem_cons hl]
  congr 1
  simp [el]
theorem el_end (h : Nat → Es.Ev) (n : Nat) : (el h n).drop n = [] := List.drop_eq_nil_of_le (by rw [el_len]; exact Nat.le_refl _)
theorem el_of (L : List Es.Ev) : el (fun k => L.getD k Es.none_) L.length = L := by
  refine List.ext_getElem (el_len _ _) fun i h1 h2 => ?_
  simp [el, h2]
theorem el_at {h : Nat → Es.Ev} {n k : Nat} (hk : k < n) : (el h n).getD k Es.none_ = h k := by simp [el, List.getD_eq_getElem?_getD, hk]
theorem el_congr {h h' : Nat → Es.Ev} {n : Nat} (e : ∀ k, k < n → h k = h' k) : el h n = el h' n := List.map_congr_left fun k hk => e k (List.mem_range.1 hk)
theorem el_take {h : Nat → Es.Ev} {n k : Nat} (hk : k ≤ n) : (el h n).take k = el h k := by
  unfold el
  rw [← List.map_take, List.take_range, Nat.min_eq_left hk]

/-- v is a slice of the call's own that holds the edits L. -/
def OwnE (w : World) (base : Nat) (v : Value) (L : List Es.Ev) : Prop := w.ownsRow base 59 3 v L.length (L.flatMap evC)
theorem OwnE.zero (w : World) (base : Nat) : OwnE w base (.slice none 0 0) [] := World.ownsRow_nil w base _ 3
theorem OwnE.of_block {w w' : World} {base : Nat} {v : Value} {L : List Es.Ev} (h : OwnE w base v L) (hb : ∀ k, v.ownBlock = some k → w'.heap[k]? = w.heap[k]?) : OwnE w' base v L := by
  refine ⟨h.1, ?_⟩
  rcases h.2 with hn | ⟨g, cap, cur, rfl, h1, h2, rest⟩
  · exact .inl hn
  · exact .inr ⟨g, cap, cur, rfl, h1, (hb g rfl).trans h2, rest⟩
theorem OwnE.lt_ {w : World} {base : Nat} {v : Value} {L : List Es.Ev} (h : OwnE w base v L) : ∀ k, v.ownBlock = some k → base ≤ k ∧ k < w.heap.size := fun k hk => World.ownsRow.lt h k hk
theorem OwnE.low {w w' : World} {base : Nat} {v : Value} {L : List Es.Ev} (h : OwnE w base v L) (hb : Below w.heap.size w w') : OwnE w' base v L := h.of_block fun k hk => hb.block k (h.lt_ k hk).2
theorem OwnE.alloc {w : World} {base : Nat} {v : Value} {L : List Es.Ev} (h : OwnE w base v L) (o : Obj) : OwnE (w.alloc o) base v L := World.ownsRow.alloc h o
theorem OwnE.drewN {w : World} {base : Nat} {v : Value} {L : List Es.Ev} (h : OwnE w base v L) (d : Nat) : OwnE (w.drewN d) base v L := h
theorem ev_flat : ∀ (L : List Es.Ev) (k : Nat) (h : k < L.length), (L.flatMap evC)[k * 3]? = some (.int .i64 L[k].a) ∧ (L.flatMap evC)[k * 3 + 1]? = some (.int .i64 L[k].d) ∧ (L.flatMap evC)[k * 3 + 2]? = some (.string L[k].s)
  | [], k, h => by simp at h
  | x :: t, 0, _ => by simp [evC]
  | x :: t, k + 1, h => by
    have := ev_flat t k (by simpa using h)
    rw [List.flatMap_cons]
    have hl : (evC x).length = 3 := rfl
    rw [List.getElem?_append_right (by omega), List.getElem?_append_right (by omega), List.getElem?_append_right (by omega), hl, show (k + 1) * 3 - 3 = k * 3 by omega, show (k + 1) * 3 + 1 - 3 = k * 3 + 1 by omega, show (k + 1) * 3 + 2 - 3 = k * 3 + 2 by omega]
    exact this
theorem ev_len (L : List Es.Ev) : (L.flatMap evC).length = L.length * 3 := by
  induction L with
  | nil => rfl
  | cons a r ih => rw [List.flatMap_cons, List.length_append, ih, List.length_cons]; show 3 + _ = _; omega
theorem OwnE.row {w : World} {base : Nat} {v : Value} {L : List Es.Ev} (h : OwnE w base v L) : ∃ A c, v = .slice A L.length c ∧ L.length ≤ c ∧ EvRow w A L.length (fun k => L.getD k Es.none_) := by
  have hlt := World.ownsRow.lt h
  rcases h.2 with ⟨rfl, h0⟩ | ⟨g, cap, cur, rfl, h1, h2, h3, h4, h5, h6⟩
  · rw [h0]
    exact ⟨none, 0, rfl, by omega, fun k hk => by omega⟩
  · refine ⟨_, cap, rfl, h3, fun k hk => ⟨g, 0, rfl, (hlt g rfl).2, ?_⟩⟩
    have hf := ev_flat L k hk
    have hcell : ∀ j, j < L.length * 3 → w.cell? ⟨g, j, none⟩ = (L.flatMap evC)[j]? := by
      intro j hj
      rw [← h6, List.getElem?_take, if_pos hj, cell_of_row _ _ _ _ _ _ h2]
      simp
    rw [Nat.zero_add, hcell _ (by omega), hcell _ (by omega), hcell _ (by omega), hf.1, hf.2.1, hf.2.2]
    have e : L.getD k Es.none_ = L[k] := by rw [List.getD_eq_getElem?_getD, List.getElem?_eq_getElem hk]; rfl
    simp only [e]
    exact ⟨trivial, trivial, trivial⟩
theorem Try.infoEv : (Try.prog.info? 59).map (fun i => (i.zero, i.size, i.bytes)) = some (some (.agg #[.int .i64 0, .int .i64 0, .string ⟨#[]⟩]), 3, 32) := by kernel_rfl
/-- 'l = append(l, x)', l a row of the call's own. -/
theorem app_ev {ops : Array Oper} {rest : List Oper} {o : Oper} {a : Act} {Q : Exit → Act → World → Prop} {wr : World} {L : List Es.Ev} {x : Es.Ev} {v : Value} {base : Nat} (hgd : o.guard = none) (s z : Operand)
    (ho : o.op = .call { callee := .builtin .append, args := #[s, z], argTypes := #[54, 54] })
    (hs : a.eval s = v) (hown : OwnE wr base v L) (N : Nat) (hN : wr.heap.size = N) (hx : a.eval z = .slice (some ⟨N, 0, none⟩) 1 1)
    (hbase : base ≤ N) (n : Nat) (hn : L.length = n) (hlen : n < 1000000)
    (h : ∀ g cap w', OwnE w' base (.slice (some ⟨g, 0, none⟩) (n + 1) cap) (L ++ [x]) → wr.grownBy w' v.ownBlock → wpList Try.prog ops Q rest (a.put o.dst (.slice (some ⟨g, 0, none⟩) (n + 1) cap)) w') :
    wpList Try.prog ops Q (o :: rest) a (wr.alloc (.cells #[.int .i64 x.a, .int .i64 x.d, .string x.s] 59)) := by
  subst hN; subst hn
  obtain ⟨i0, hi, hz0, hz1, hz2⟩ := info_parts Try.infoEv
  refine wpList_append_lies _ hgd s z 54 ho base 59 i0 (.agg #[.int .i64 0, .int .i64 0, .string ⟨#[]⟩]) 3 32 Try.underlying54 hi hz0 hz1 hz2 rfl (by decide) v _ _ hs (World.ownsRow.alloc hown _) ⟨wr.heap.size, 0, none⟩ 1 1 (evC x) hx rfl ?_ ?_ (by omega) ?_ ?_ ?_ (wr.heap.size + 1) (by simp) ?_
  · intro j u hj
    match j, hj with
    | 0, hj => simp [evC] at hj; subst hj; simp [Addr.add]
    | 1, hj => simp [evC] at hj; subst hj; simp [Addr.add]
    | 2, hj => simp [evC] at hj; subst hj; simp [Addr.add]
  · intro u hu
    simp [evC] at hu
    rcases hu with rfl | rfl | rfl <;> rfl
  · unfold maxLen; omega
  · omega
  · simp; omega
  · intro g cap w' h1 h2 h3 _
    refine h g cap w' ?_ ?_
    · unfold OwnE
      rw [List.flatMap_append]
      simpa using h1
    · exact ⟨h2.os, h2.tape, h2.output, Nat.le_trans (by simp) h2.size, fun k hk hne => (h2.block k (by simp; omega) hne).trans (Below.heap_alloc wr _ k hk)⟩
/-- A struct variable that holds an edit, in a new block. -/
theorem ev_new (w : World) (x : Es.Ev) (t : TypeId) : (w.alloc (.cells #[.int .i64 x.a, .int .i64 x.d, .string x.s] t)).cell? ⟨w.heap.size, 0, none⟩ = some (.int .i64 x.a) ∧ (w.alloc (.cells #[.int .i64 x.a, .int .i64 x.d, .string x.s] t)).cell? ⟨w.heap.size, 1, none⟩ = some (.int .i64 x.d) ∧ (w.alloc (.cells #[.int .i64 x.a, .int .i64 x.d, .string x.s] t)).cell? ⟨w.heap.size, 2, none⟩ = some (.string x.s) := by
  refine ⟨?_, ?_, ?_⟩ <;> (rw [cell_of_row _ _ _ _ _ _ (heap_alloc_new w _)]; rfl)
/-- A literal of one edit. -/
theorem EvRow.one (w : World) (x : Es.Ev) (t : TypeId) (N : Nat) (hN : w.heap.size = N) : EvRow (w.alloc (.cells #[.int .i64 x.a, .int .i64 x.d, .string x.s] t)) (some ⟨N, 0, none⟩) 1 (fun _ => x) := by
  subst hN
  intro k hk
  obtain rfl : k = 0 := by omega
  have := ev_new w x t
  exact ⟨_, 0, rfl, by simp, this.1, this.2.1, this.2.2⟩
theorem EvRow.two (w : World) (x y : Es.Ev) (t : TypeId) (N : Nat) (hN : w.heap.size = N) : EvRow (w.alloc (.cells #[.int .i64 x.a, .int .i64 x.d, .string x.s, .int .i64 y.a, .int .i64 y.d, .string y.s] t)) (some ⟨N, 0, none⟩) 2 (fun k => if k = 0 then x else y) := by
  subst hN
  intro k hk
  have c := fun (j : Nat) => cell_of_row (w.alloc (.cells #[.int .i64 x.a, .int .i64 x.d, .string x.s, .int .i64 y.a, .int .i64 y.d, .string y.s] t)) w.heap.size j _ _ _ (heap_alloc_new w _)
  match k, hk with
  | 0, _ =>
    refine ⟨_, 0, rfl, by simp, ?_, ?_, ?_⟩ <;> (rw [c]; rfl)
  | 1, _ =>
    refine ⟨_, 0, rfl, by simp, ?_, ?_, ?_⟩ <;> (rw [c]; rfl)
end Go.Proofs.Ytgkagigagcamoaa
