
/-
Rows of runs (a byte and a number each): appending one, storing into the last one.
-/
import Derived.Test.YthebjelkmopboaaRunMath
import Derived.Test.YthebjelkmopboaaLst
import Derived.Deep.AppendLies
import Derived.Laws.OwnMore
namespace Go.Proofs.Ythebjelkmopboaa
open Go.RowKit

/-- The two cells of a run. -/
def rC (p : Rm.R) : List Value := [.int .u8 (p.1.toNat : Int), .int .i64 p.2]
/-- v is a slice of the call's own that holds the runs L. -/
def OwnR (w : World) (base : Nat) (v : Value) (L : List Rm.R) : Prop := w.ownsRow base 39 2 v L.length (L.flatMap rC)
theorem OwnR.zero (w : World) (base : Nat) : OwnR w base (.slice none 0 0) [] := World.ownsRow_nil w base _ 2
theorem OwnR.of_block {w w' : World} {base : Nat} {v : Value} {L : List Rm.R} (h : OwnR w base v L) (hb : ∀ k, v.ownBlock = some k → w'.heap[k]? = w.heap[k]?) : OwnR w' base v L := by
  refine ⟨h.1, ?_⟩
  rcases h.2 with hn | ⟨g, cap, cur, rfl, h1, h2, rest⟩
  · exact .inl hn
  · exact .inr ⟨g, cap, cur, rfl, h1, (hb g rfl).trans h2, rest⟩
theorem OwnR.lt_ {w : World} {base : Nat} {v : Value} {L : List Rm.R} (h : OwnR w base v L) : ∀ k, v.ownBlock = some k → base ≤ k ∧ k < w.heap.size := fun k hk => World.ownsRow.lt h k hk
theorem OwnR.low {w w' : World} {base : Nat} {v : Value} {L : List Rm.R} (h : OwnR w base v L) (hb : Below w.heap.size w w') : OwnR w' base v L := h.of_block fun k hk => hb.block k (h.lt_ k hk).2
theorem OwnR.alloc {w : World} {base : Nat} {v : Value} {L : List Rm.R} (h : OwnR w base v L) (o : Obj) : OwnR (w.alloc o) base v L := World.ownsRow.alloc h o
theorem OwnR.drewN {w : World} {base : Nat} {v : Value} {L : List Rm.R} (h : OwnR w base v L) (d : Nat) : OwnR (w.drewN d) base v L := h
theorem r_flat : ∀ (L : List Rm.R) (k : Nat) (h : k < L.length), (L.flatMap rC)[k * 2]? = some (.int .u8 (L[k].1.toNat : Int)) ∧ (L.flatMap rC)[k * 2 + 1]? = some (.int .i64 L[k].2)
  | [], k, h => by simp at h
  | x :: t, 0, _ => by simp [rC]
  | x :: t, k + 1, h => by
    have := r_flat t k (by simpa using h)
    rw [List.flatMap_cons]
    have hl : (rC x).length = 2 := rfl
    rw [List.getElem?_append_right (by omega), List.getElem?_append_right (by omega), hl, show (k + 1) * 2 - 2 = k * 2 by omega, show (k + 1) * 2 + 1 - 2 = k * 2 + 1 by omega]
    exact this
theorem r_len (L : List Rm.R) : (L.flatMap rC).length = L.length * 2 := by
  induction L with
  | nil => rfl
  | cons a r ih => rw [List.flatMap_cons, List.length_append, ih, List.length_cons]; show 2 + _ = _; omega
/-- The first n pairs of cells at A hold the runs h 0, h 1, ..; they lie in blocks that are there. -/
def RRow (w : World) (A : Option Addr) (n : Nat) (h : Nat → Rm.R) : Prop :=
  ∀ k, k < n → ∃ b o, A = some ⟨b, o, none⟩ ∧ b < w.heap.size ∧ w.cell? ⟨b, o + k * 2, none⟩ = some (.int .u8 ((h k).1.toNat : Int)) ∧ w.cell? ⟨b, o + k * 2 + 1, none⟩ = some (.int .i64 (h k).2)
theorem RRow.keep {w w' : World} {A : Option Addr} {n : Nat} {h : Nat → Rm.R} (hr : RRow w A n h) (hb : Below w.heap.size w w') : RRow w' A n h := by
  intro k hk
  obtain ⟨b, o, rfl, hlt, h1, h2⟩ := hr k hk
  exact ⟨b, o, rfl, Nat.lt_of_lt_of_le hlt hb.size, (hb.cell (p := ⟨b, o + k * 2, none⟩) hlt).trans h1, (hb.cell (p := ⟨b, o + k * 2 + 1, none⟩) hlt).trans h2⟩
theorem RRow.congr {w : World} {A : Option Addr} {n : Nat} {h h' : Nat → Rm.R} (hr : RRow w A n h) (e : ∀ k, k < n → h k = h' k) : RRow w A n h' := by
  intro k hk
  obtain ⟨b, o, h1, h2, h3, h4⟩ := hr k hk
  rw [e k hk] at h3 h4
  exact ⟨b, o, h1, h2, h3, h4⟩
/-- The runs of such a row. -/
def rs (h : Nat → Rm.R) (n : Nat) : List Rm.R := (List.range n).map h
theorem rs_len (h : Nat → Rm.R) (n : Nat) : (rs h n).length = n := by unfold rs; simp
theorem rs_drop {h : Nat → Rm.R} {n k : Nat} (hk : k < n) : (rs h n).drop k = h k :: (rs h n).drop (k + 1) := by
  have hl : k < (rs h n).length := by rw [rs_len]; exact hk
  rw [List.drop_eq_getElem_cons hl]
  congr 1
  simp [rs]
theorem rs_end (h : Nat → Rm.R) (n : Nat) : (rs h n).drop n = [] := List.drop_eq_nil_of_le (by rw [rs_len]; exact Nat.le_refl _)
theorem rs_of (L : List Rm.R) : rs (fun k => L.getD k (0, 0)) L.length = L := by
  refine List.ext_getElem (rs_len _ _) fun i h1 h2 => ?_
  simp [rs, h2]
theorem rs_at {h : Nat → Rm.R} {n k : Nat} (hk : k < n) : (rs h n).getD k (0, 0) = h k := by simp [rs, List.getD_eq_getElem?_getD, hk]
theorem OwnR.row {w : World} {base : Nat} {v : Value} {L : List Rm.R} (h : OwnR w base v L) : ∃ A c, v = .slice A L.length c ∧ L.length ≤ c ∧ RRow w A L.length (fun k => L.getD k (0, 0)) := by
  have hlt := World.ownsRow.lt h
  rcases h.2 with ⟨rfl, h0⟩ | ⟨g, cap, cur, rfl, h1, h2, h3, h4, h5, h6⟩
  · rw [h0]
    exact ⟨none, 0, rfl, by omega, fun k hk => by omega⟩
  · refine ⟨_, cap, rfl, h3, fun k hk => ⟨g, 0, rfl, (hlt g rfl).2, ?_⟩⟩
    have hf := r_flat L k hk
    have hcell : ∀ j, j < L.length * 2 → w.cell? ⟨g, j, none⟩ = (L.flatMap rC)[j]? := by
      intro j hj
      rw [← h6, List.getElem?_take, if_pos hj, cell_of_row _ _ _ _ _ _ h2]
      simp
    rw [Nat.zero_add, hcell _ (by omega), hcell _ (by omega), hf.1, hf.2]
    have e : L.getD k (0, 0) = L[k] := by rw [List.getD_eq_getElem?_getD, List.getElem?_eq_getElem hk]; rfl
    simp only [e]
    exact ⟨trivial, trivial⟩

theorem Try.infoRun : (Try.prog.info? 39).map (fun i => (i.zero, i.size, i.bytes)) = some (some (.agg #[.int .u8 0, .int .i64 0]), 2, 16) := by kernel_rfl
/-- 'l = append(l, r)', l a row of the call's own. -/
theorem app_run {ops : Array Oper} {rest : List Oper} {o : Oper} {a : Act} {Q : Exit → Act → World → Prop} {wr : World} {L : List Rm.R} {x : UInt8} {y : Int} {v : Value} {base : Nat} (hgd : o.guard = none) (s z : Operand)
    (ho : o.op = .call { callee := .builtin .append, args := #[s, z], argTypes := #[23, 23] })
    (hs : a.eval s = v) (hown : OwnR wr base v L) (N : Nat) (hN : wr.heap.size = N) (hx : a.eval z = .slice (some ⟨N, 0, none⟩) 1 1)
    (hbase : base ≤ N) (n : Nat) (hn : L.length = n) (hlen : n < 1000000)
    (h : ∀ g cap w', OwnR w' base (.slice (some ⟨g, 0, none⟩) (n + 1) cap) (L ++ [(x, y)]) → wr.grownBy w' v.ownBlock → wpList Try.prog ops Q rest (a.put o.dst (.slice (some ⟨g, 0, none⟩) (n + 1) cap)) w') :
    wpList Try.prog ops Q (o :: rest) a (wr.alloc (.cells #[.int .u8 (x.toNat : Int), .int .i64 y] 39)) := by
  subst hN; subst hn
  obtain ⟨i0, hi, hz0, hz1, hz2⟩ := info_parts Try.infoRun
  refine wpList_append_lies _ hgd s z 23 ho base 39 i0 (.agg #[.int .u8 0, .int .i64 0]) 2 16 Try.underlying23 hi hz0 hz1 hz2 rfl (by decide) v _ _ hs (World.ownsRow.alloc hown _) ⟨wr.heap.size, 0, none⟩ 1 1 (rC (x, y)) hx rfl ?_ ?_ (by omega) ?_ ?_ ?_ (wr.heap.size + 1) (by simp) ?_
  · intro j u hj
    match j, hj with
    | 0, hj => simp [rC] at hj; subst hj; simp [Addr.add]
    | 1, hj => simp [rC] at hj; subst hj; simp [Addr.add]
  · intro u hu
    simp [rC] at hu
    rcases hu with rfl | rfl <;> rfl
  · unfold maxLen; omega
  · omega
  · simp; omega
  · intro g cap w' h1 h2 h3 _
    refine h g cap w' ?_ ?_
    · unfold OwnR
      rw [List.flatMap_append]
      simpa using h1
    · exact ⟨h2.os, h2.tape, h2.output, Nat.le_trans (by simp) h2.size, fun k hk hne => (h2.block k (by simp; omega) hne).trans (Below.heap_alloc wr _ k hk)⟩
/-- What the last run of a row of the call's own reads as. -/
theorem OwnR.last {w : World} {base n cap g m : Nat} {T : List Rm.R} {b : UInt8} {x : Int} (hm : T.length = m) (h : OwnR w base (.slice (some ⟨g, 0, none⟩) n cap) (T ++ [(b, x)])) : w.cell? ⟨g, m * 2 + 1, none⟩ = some (.int .i64 x) ∧ w.frozen? ⟨g, m * 2 + 1, none⟩ = false ∧ n = m + 1 ∧ base ≤ g ∧ g < w.heap.size := by
  subst hm
  obtain ⟨A, c, e, _, hrow⟩ := h.row
  injection e with e1 e2 e3
  obtain ⟨b', o, e4, hlt, h1, h2⟩ := hrow T.length (by simp)
  rw [← e1] at e4
  injection e4 with e4
  injection e4 with e4 e5
  subst e4; subst e5
  have e6 : (T ++ [(b, x)]).getD T.length (0, 0) = (b, x) := by simp [List.getD_eq_getElem?_getD]
  have h2' : w.cell? ⟨g, 0 + T.length * 2 + 1, none⟩ = some (.int .i64 ((T ++ [(b, x)]).getD T.length (0, 0)).2) := h2
  rw [e6, Nat.zero_add] at h2'
  have h6 := h.2
  rcases h6 with ⟨h7, _⟩ | ⟨g2, cap2, cur, h7, h8, h9, _⟩
  · cases h7
  · injection h7 with h7
    injection h7 with h7
    injection h7 with h7
    subst h7
    exact ⟨h2', by simp [World.frozen?, h9], by simpa using e2, h8, hlt⟩
/-- A store into the last run's number. -/
theorem OwnR.store {w : World} {base n cap g m : Nat} {T : List Rm.R} {b : UInt8} {x : Int} (hm : T.length = m) (h : OwnR w base (.slice (some ⟨g, 0, none⟩) n cap) (T ++ [(b, x)])) (y : Int) : OwnR (w.setCell ⟨g, m * 2 + 1, none⟩ (.int .i64 y)) base (.slice (some ⟨g, 0, none⟩) n cap) (T ++ [(b, y)]) := by
  subst hm
  have hl : (T ++ [(b, y)]).length = (T ++ [(b, x)]).length := by simp
  unfold OwnR at h ⊢
  rw [hl]
  obtain ⟨h0, h1⟩ := h
  refine ⟨by rw [r_len, hl], ?_⟩
  rcases h1 with ⟨h7, _⟩ | ⟨g2, cap2, cur, h7, h8, h9, h10, h11, h12, h13⟩
  · cases h7
  · injection h7 with h7 h7n h7c
    injection h7 with h7
    injection h7 with h7
    subst h7
    refine .inr ⟨g, cap2, cur.setIfInBounds (T.length * 2 + 1) (.int .i64 y), by rw [h7c, h7n], h8, ?_, h10, h11, by simpa using h12, ?_⟩
    · simp [World.setCell, Array.getElem?_modify, h9]
    · rw [Array.toList_setIfInBounds, List.take_set, h13]
      have e : ∀ z : Int, (T ++ [(b, z)]).flatMap rC = T.flatMap rC ++ [.int .u8 (b.toNat : Int), .int .i64 z] := by
        intro z
        rw [List.flatMap_append]
        rfl
      rw [e, e]
      rw [List.set_append_right _ _ (by rw [r_len]; omega), r_len, show T.length * 2 + 1 - T.length * 2 = 1 by omega]
      rfl
end Go.Proofs.Ythebjelkmopboaa
