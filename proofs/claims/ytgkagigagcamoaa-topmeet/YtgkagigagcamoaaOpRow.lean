
/-
Rows of ops (two numbers and a string each): read ones; rows of the call's own, appending to one.
-/
import Derived.Test.YtgkagigagcamoaaShMath
import Derived.Test.YtgkagigagcamoaaSeg6
import Derived.Deep.AppendLies
import Derived.Laws.OwnMore
namespace Go.Proofs.Ytgkagigagcamoaa
open Go.RowKit

/-- The three cells of an op. -/
def opC (x : Sh.Op) : List Value := [.int .i64 x.k, .int .i64 x.a, .int .u8 (x.b.toNat : Int)]
/-- An op as a value. -/
def opV (x : Sh.Op) : Value := .agg #[.int .i64 x.k, .int .i64 x.a, .int .u8 (x.b.toNat : Int)]
/-- What a program can hold. -/
structure OpWf (x : Sh.Op) : Prop where
  a1 : -9223372036854775808 ≤ x.k
  a2 : x.k ≤ 9223372036854775807
  d1 : -9223372036854775808 ≤ x.a
  d2 : x.a ≤ 9223372036854775807
/-- The first n triples of cells at A hold the ops h 0, h 1, ..; they lie in blocks that are there. -/
def OpRow (w : World) (A : Option Addr) (n : Nat) (h : Nat → Sh.Op) : Prop :=
  ∀ k, k < n → ∃ b o, A = some ⟨b, o, none⟩ ∧ b < w.heap.size ∧ w.cell? ⟨b, o + k * 3, none⟩ = some (.int .i64 (h k).k) ∧ w.cell? ⟨b, o + k * 3 + 1, none⟩ = some (.int .i64 (h k).a) ∧ w.cell? ⟨b, o + k * 3 + 2, none⟩ = some (.int .u8 ((h k).b.toNat : Int))
theorem OpRow.keep {w w' : World} {A : Option Addr} {n : Nat} {h : Nat → Sh.Op} (hr : OpRow w A n h) (hb : Below w.heap.size w w') : OpRow w' A n h := by
  intro k hk
  obtain ⟨b, o, rfl, hlt, h1, h2, h3⟩ := hr k hk
  exact ⟨b, o, rfl, Nat.lt_of_lt_of_le hlt hb.size, (hb.cell (p := ⟨b, o + k * 3, none⟩) hlt).trans h1, (hb.cell (p := ⟨b, o + k * 3 + 1, none⟩) hlt).trans h2, (hb.cell (p := ⟨b, o + k * 3 + 2, none⟩) hlt).trans h3⟩
theorem OpRow.less {w : World} {A : Option Addr} {n m : Nat} {h : Nat → Sh.Op} (hr : OpRow w A n h) (hm : m ≤ n) : OpRow w A m h := fun k hk => hr k (by omega)
theorem OpRow.congr {w : World} {A : Option Addr} {n : Nat} {h h' : Nat → Sh.Op} (hr : OpRow w A n h) (e : ∀ k, k < n → h k = h' k) : OpRow w A n h' := by
  intro k hk
  obtain ⟨b, o, h1, h2, h3, h4, h5⟩ := hr k hk
  rw [e k hk] at h3 h4 h5
  exact ⟨b, o, h1, h2, h3, h4, h5⟩
/-- From the i-th one on. -/
theorem OpRow.from_ {w : World} {b o : Nat} {n i : Nat} {h : Nat → Sh.Op} (hr : OpRow w (some ⟨b, o, none⟩) n h) : OpRow w (some ⟨b, o + i * 3, none⟩) (n - i) (fun k => h (i + k)) := by
  intro k hk
  obtain ⟨b', o', e, hlt, h1, h2, h3⟩ := hr (i + k) (by omega)
  injection e with e
  injection e with e1 e2
  subst e1 e2
  refine ⟨b, _, rfl, hlt, ?_, ?_, ?_⟩
  · rw [show o + i * 3 + k * 3 = o + (i + k) * 3 by omega]; exact h1
  · rw [show o + i * 3 + k * 3 = o + (i + k) * 3 by omega]; exact h2
  · rw [show o + i * 3 + k * 3 = o + (i + k) * 3 by omega]; exact h3
/-- The ops of such a row. -/
def ol (h : Nat → Sh.Op) (n : Nat) : List Sh.Op := (List.range n).map h
theorem ol_len (h : Nat → Sh.Op) (n : Nat) : (ol h n).length = n := by unfold ol; simp
theorem ol_succ (h : Nat → Sh.Op) (n : Nat) : ol h (n + 1) = ol h n ++ [h n] := by unfold ol; rw [List.range_succ, List.map_append]; rfl
theorem ol_drop {h : Nat → Sh.Op} {n k : Nat} (hk : k < n) : (ol h n).drop k = h k :: (ol h n).drop (k + 1) := by
  have hl : k < (ol h n).length := by rw [ol_len]; exact hk
  rw [List.drop_eq_getElem_cons hl]
  congr 1
  simp [ol]
theorem ol_end (h : Nat → Sh.Op) (n : Nat) : (ol h n).drop n = [] := List.drop_eq_nil_of_le (by rw [ol_len]; exact Nat.le_refl _)
theorem ol_of (L : List Sh.Op) : ol (fun k => L.getD k Sh.zero) L.length = L := by
  refine List.ext_getElem (ol_len _ _) fun i h1 h2 => ?_
  simp [ol, h2]
theorem ol_at {h : Nat → Sh.Op} {n k : Nat} (hk : k < n) : (ol h n).getD k Sh.zero = h k := by simp [ol, List.getD_eq_getElem?_getD, hk]
theorem ol_congr {h h' : Nat → Sh.Op} {n : Nat} (e : ∀ k, k < n → h k = h' k) : ol h n = ol h' n := List.map_congr_left fun k hk => e k (List.mem_range.1 hk)
theorem ol_take {h : Nat → Sh.Op} {n k : Nat} (hk : k ≤ n) : (ol h n).take k = ol h k := by
  unfold ol
  rw [← List.map_take, List.take_range, Nat.min_eq_left hk]

/-- v is a slice of the call's own that holds the ops L. -/
def OwnO (w : World) (base : Nat) (v : Value) (L : List Sh.Op) : Prop := w.ownsRow base 23 3 v L.length (L.flatMap opC)
theorem OwnO.zero (w : World) (base : Nat) : OwnO w base (.slice none 0 0) [] := World.ownsRow_nil w base _ 3
theorem OwnO.of_block {w w' : World} {base : Nat} {v : Value} {L : List Sh.Op} (h : OwnO w base v L) (hb : ∀ k, v.ownBlock = some k → w'.heap[k]? = w.heap[k]?) : OwnO w' base v L := by
  refine ⟨h.1, ?_⟩
  rcases h.2 with hn | ⟨g, cap, cur, rfl, h1, h2, rest⟩
  · exact .inl hn
  · exact .inr ⟨g, cap, cur, rfl, h1, (hb g rfl).trans h2, rest⟩
theorem OwnO.lt_ {w : World} {base : Nat} {v : Value} {L : List Sh.Op} (h : OwnO w base v L) : ∀ k, v.ownBlock = some k → base ≤ k ∧ k < w.heap.size := fun k hk => World.ownsRow.lt h k hk
theorem OwnO.low {w w' : World} {base : Nat} {v : Value} {L : List Sh.Op} (h : OwnO w base v L) (hb : Below w.heap.size w w') : OwnO w' base v L := h.of_block fun k hk => hb.block k (h.lt_ k hk).2
theorem OwnO.alloc {w : World} {base : Nat} {v : Value} {L : List Sh.Op} (h : OwnO w base v L) (o : Obj) : OwnO (w.alloc o) base v L := World.ownsRow.alloc h o
theorem OwnO.drewN {w : World} {base : Nat} {v : Value} {L : List Sh.Op} (h : OwnO w base v L) (d : Nat) : OwnO (w.drewN d) base v L := h
theorem op_flat : ∀ (L : List Sh.Op) (k : Nat) (h : k < L.length), (L.flatMap opC)[k * 3]? = some (.int .i64 L[k].k) ∧ (L.flatMap opC)[k * 3 + 1]? = some (.int .i64 L[k].a) ∧ (L.flatMap opC)[k * 3 + 2]? = some (.int .u8 (L[k].b.toNat : Int))
  | [], k, h => by simp at h
  | x :: t, 0, _ => by simp [opC]
  | x :: t, k + 1, h => by
    have := op_flat t k (by simpa using h)
    rw [List.flatMap_cons]
    have hl : (opC x).length = 3 := rfl
    rw [List.getElem?_append_right (by omega), List.getElem?_append_right (by omega), List.getElem?_append_right (by omega), hl, show (k + 1) * 3 - 3 = k * 3 by omega, show (k + 1) * 3 + 1 - 3 = k * 3 + 1 by omega, show (k + 1) * 3 + 2 - 3 = k * 3 + 2 by omega]
    exact this
theorem op_len (L : List Sh.Op) : (L.flatMap opC).length = L.length * 3 := by
  induction L with
  | nil => rfl
  | cons a r ih => rw [List.flatMap_cons, List.length_append, ih, List.length_cons]; show 3 + _ = _; omega
theorem OwnO.row {w : World} {base : Nat} {v : Value} {L : List Sh.Op} (h : OwnO w base v L) : ∃ A c, v = .slice A L.length c ∧ L.length ≤ c ∧ OpRow w A L.length (fun k => L.getD k Sh.zero) := by
  have hlt := World.ownsRow.lt h
  rcases h.2 with ⟨rfl, h0⟩ | ⟨g, cap, cur, rfl, h1, h2, h3, h4, h5, h6⟩
  · rw [h0]
    exact ⟨none, 0, rfl, by omega, fun k hk => by omega⟩
  · refine ⟨_, cap, rfl, h3, fun k hk => ⟨g, 0, rfl, (hlt g rfl).2, ?_⟩⟩
    have hf := op_flat L k hk
    have hcell : ∀ j, j < L.length * 3 → w.cell? ⟨g, j, none⟩ = (L.flatMap opC)[j]? := by
      intro j hj
      rw [← h6, List.getElem?_take, if_pos hj, cell_of_row _ _ _ _ _ _ h2]
      simp
    rw [Nat.zero_add, hcell _ (by omega), hcell _ (by omega), hcell _ (by omega), hf.1, hf.2.1, hf.2.2]
    have e : L.getD k Sh.zero = L[k] := by rw [List.getD_eq_getElem?_getD, List.getElem?_eq_getElem hk]; rfl
    simp only [e]
    exact ⟨trivial, trivial, trivial⟩
theorem Try.infoOp : (Try.prog.info? 23).map (fun i => (i.zero, i.size, i.bytes)) = some (some (.agg #[.int .i64 0, .int .i64 0, .int .u8 0]), 3, 24) := by kernel_rfl
/-- 'l = append(l, x)', l a row of the call's own. -/
theorem app_op {ops : Array Oper} {rest : List Oper} {o : Oper} {a : Act} {Q : Exit → Act → World → Prop} {wr : World} {L : List Sh.Op} {x : Sh.Op} {v : Value} {base : Nat} (hgd : o.guard = none) (s z : Operand)
    (ho : o.op = .call { callee := .builtin .append, args := #[s, z], argTypes := #[33, 33] })
    (hs : a.eval s = v) (hown : OwnO wr base v L) (N : Nat) (hN : wr.heap.size = N) (hx : a.eval z = .slice (some ⟨N, 0, none⟩) 1 1)
    (hbase : base ≤ N) (n : Nat) (hn : L.length = n) (hlen : n < 1000000)
    (h : ∀ g cap w', OwnO w' base (.slice (some ⟨g, 0, none⟩) (n + 1) cap) (L ++ [x]) → wr.grownBy w' v.ownBlock → wpList Try.prog ops Q rest (a.put o.dst (.slice (some ⟨g, 0, none⟩) (n + 1) cap)) w') :
    wpList Try.prog ops Q (o :: rest) a (wr.alloc (.cells #[.int .i64 x.k, .int .i64 x.a, .int .u8 (x.b.toNat : Int)] 23)) := by
  subst hN; subst hn
  obtain ⟨i0, hi, hz0, hz1, hz2⟩ := info_parts Try.infoOp
  refine wpList_append_lies _ hgd s z 33 ho base 23 i0 (.agg #[.int .i64 0, .int .i64 0, .int .u8 0]) 3 24 Try.underlying33 hi hz0 hz1 hz2 rfl (by decide) v _ _ hs (World.ownsRow.alloc hown _) ⟨wr.heap.size, 0, none⟩ 1 1 (opC x) hx rfl ?_ ?_ (by omega) ?_ ?_ ?_ (wr.heap.size + 1) (by simp) ?_
  · intro j u hj
    match j, hj with
    | 0, hj => simp [opC] at hj; subst hj; simp [Addr.add]
    | 1, hj => simp [opC] at hj; subst hj; simp [Addr.add]
    | 2, hj => simp [opC] at hj; subst hj; simp [Addr.add]
  · intro u hu
    simp [opC] at hu
    rcases hu with rfl | rfl | rfl <;> rfl
  · unfold maxLen; omega
  · omega
  · simp; omega
  · intro g cap w' h1 h2 h3 _
    refine h g cap w' ?_ ?_
    · unfold OwnO
      rw [List.flatMap_append]
      simpa using h1
    · exact ⟨h2.os, h2.tape, h2.output, Nat.le_trans (by simp) h2.size, fun k hk hne => (h2.block k (by simp; omega) hne).trans (Below.heap_alloc wr _ k hk)⟩
/-- A struct variable that holds an op, in a new block. -/
theorem op_new (w : World) (x : Sh.Op) (t : TypeId) : (w.alloc (.cells #[.int .i64 x.k, .int .i64 x.a, .int .u8 (x.b.toNat : Int)] t)).cell? ⟨w.heap.size, 0, none⟩ = some (.int .i64 x.k) ∧ (w.alloc (.cells #[.int .i64 x.k, .int .i64 x.a, .int .u8 (x.b.toNat : Int)] t)).cell? ⟨w.heap.size, 1, none⟩ = some (.int .i64 x.a) ∧ (w.alloc (.cells #[.int .i64 x.k, .int .i64 x.a, .int .u8 (x.b.toNat : Int)] t)).cell? ⟨w.heap.size, 2, none⟩ = some (.int .u8 (x.b.toNat : Int)) := by
  refine ⟨?_, ?_, ?_⟩ <;> (rw [cell_of_row _ _ _ _ _ _ (heap_alloc_new w _)]; rfl)
/-- A literal of one edit. -/
theorem OpRow.one (w : World) (x : Sh.Op) (t : TypeId) (N : Nat) (hN : w.heap.size = N) : OpRow (w.alloc (.cells #[.int .i64 x.k, .int .i64 x.a, .int .u8 (x.b.toNat : Int)] t)) (some ⟨N, 0, none⟩) 1 (fun _ => x) := by
  subst hN
  intro k hk
  obtain rfl : k = 0 := by omega
  have := op_new w x t
  exact ⟨_, 0, rfl, by simp, this.1, this.2.1, this.2.2⟩
theorem OpRow.two (w : World) (x y : Sh.Op) (t : TypeId) (N : Nat) (hN : w.heap.size = N) : OpRow (w.alloc (.cells #[.int .i64 x.k, .int .i64 x.a, .int .u8 (x.b.toNat : Int), .int .i64 y.k, .int .i64 y.a, .int .u8 (y.b.toNat : Int)] t)) (some ⟨N, 0, none⟩) 2 (fun k => if k = 0 then x else y) := by
  subst hN
  intro k hk
  have c := fun (j : Nat) => cell_of_row (w.alloc (.cells #[.int .i64 x.k, .int .i64 x.a, .int .u8 (x.b.toNat : Int), .int .i64 y.k, .int .i64 y.a, .int .u8 (y.b.toNat : Int)] t)) w.heap.size j _ _ _ (heap_alloc_new w _)
  match k, hk with
  | 0, _ =>
    refine ⟨_, 0, rfl, by simp, ?_, ?_, ?_⟩ <;> (rw [c]; rfl)
  | 1, _ =>
    refine ⟨_, 0, rfl, by simp, ?_, ?_, ?_⟩ <;> (rw [c]; rfl)
def N64 (N : Int) : Prop := -9223372036854775808 ≤ N ∧ N ≤ 9223372036854775807
/-- A list of ops that came in. -/
structure OpIn (w : World) (A : Option Addr) (n : Nat) (g : Nat → Sh.Op) : Prop where
  row : OpRow w A n g
  wf : ∀ k, k < n → OpWf (g k)
  len : n ≤ maxLen
theorem OpIn.keep {w w' : World} {A : Option Addr} {n : Nat} {g : Nat → Sh.Op} (h : OpIn w A n g) (hb : Below w.heap.size w w') : OpIn w' A n g := ⟨h.row.keep hb, h.wf, h.len⟩
theorem OpIn.none_ (w : World) (g : Nat → Sh.Op) : OpIn w none 0 g := ⟨fun _ hk => absurd hk (Nat.not_lt_zero _), fun _ hk => absurd hk (Nat.not_lt_zero _), Nat.zero_le _⟩
end Go.Proofs.Ytgkagigagcamoaa
