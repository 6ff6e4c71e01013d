/-
Slices of numbers of the program's own that are read from the front and appended to.
-/
import Derived.Test.YtppochjhodafdaaBase
import Derived.ArgAppend
namespace Go.Proofs.Ytppochjhodafdaa
open Go.RowKit

/-- v is a slice, in a block from base on, that reads L and may be appended to. -/
def QI (w : World) (base : Nat) (v : Value) (L : List Int) : Prop :=
  (v = .slice none 0 0 ∧ L = []) ∨ ∃ g off cap, v = .slice (some ⟨g, off, none⟩) L.length cap ∧ base ≤ g ∧ g < w.heap.size ∧ L.length ≤ cap ∧
    (∀ j, j < L.length → w.cell? ⟨g, off + j, none⟩ = some (.int .i64 (L.getD j 0))) ∧ ∀ j, j < cap → (w.cell? ⟨g, off + j, none⟩).isSome = true ∧ w.frozen? ⟨g, off + j, none⟩ = false
theorem QI.nil (w : World) (base : Nat) : QI w base (.slice none 0 0) [] := .inl ⟨rfl, rfl⟩
theorem QI.keep {w w' : World} {base : Nat} {v : Value} {L : List Int} (h : QI w base v L) (hs : w.heap.size ≤ w'.heap.size) (hb : ∀ k, v.ownBlock = some k → w'.heap[k]? = w.heap[k]?) : QI w' base v L := by
  rcases h with h | ⟨g, off, cap, rfl, h1, h2, h3, h4, h5⟩
  · exact .inl h
  · have e := hb g rfl
    have ec : ∀ a : Addr, a.block = g → w'.cell? a = w.cell? a := fun a ha => World.cell?_of_block (by rw [ha]; exact e)
    have ef : ∀ a : Addr, a.block = g → w'.frozen? a = w.frozen? a := fun a ha => World.frozen?_of_block (by rw [ha]; exact e)
    refine .inr ⟨g, off, cap, rfl, h1, Nat.lt_of_lt_of_le h2 hs, h3, fun j hj => ?_, fun j hj => ?_⟩
    · rw [ec _ rfl]; exact h4 j hj
    · rw [ec _ rfl, ef _ rfl]; exact h5 j hj
theorem QI.lt {w : World} {base : Nat} {v : Value} {L : List Int} (h : QI w base v L) : ∀ k, v.ownBlock = some k → base ≤ k ∧ k < w.heap.size := by
  intro k hk
  rcases h with ⟨rfl, _⟩ | ⟨g, off, cap, rfl, h1, h2, _⟩
  · cases hk
  · injection hk with hk
    have : g = k := hk
    omega
theorem QI.of_own {w : World} {base : Nat} {v : Value} {L : List Int} (h : OwnI w base v L) : QI w base v L := by
  have hcell := fun g cap (e : v = .slice (some ⟨g, 0, none⟩) L.length cap) (k : Nat) (hk : k < L.length) => World.ownsRow.cellAt (e ▸ h) k (by omega)
  rcases h.2 with ⟨rfl, h0⟩ | ⟨g, cap, cur, rfl, h1, h2, h3, h4, h5, h6⟩
  · exact .inl ⟨rfl, List.eq_nil_of_length_eq_zero h0⟩
  · rw [Nat.mul_one] at h5
    have hr : w.rowIs g 3 cap (fun j => cur[j]?.getD default) := ⟨cur, h2, h5, fun j hj => by
      show cur[j]? = some (cur[j]?.getD default)
      rw [Array.getElem?_eq_getElem (by omega)]; rfl⟩
    refine .inr ⟨g, 0, cap, rfl, h1, hr.lt, h3, fun j hj => ?_, fun j hj => ?_⟩
    · rw [Nat.zero_add, hcell g cap rfl j hj]
      simp [List.getElem?_eq_getElem hj, List.getD_eq_getElem?_getD]
    · rw [Nat.zero_add]
      exact ⟨by rw [hr.cell hj]; rfl, hr.frozen j⟩
/-- The first one taken off. -/
theorem QI.tail {w : World} {base g off n cap : Nat} {x : Int} {L : List Int} (h : QI w base (.slice (some ⟨g, off, none⟩) n cap) (x :: L)) : n = L.length + 1 ∧ L.length + 1 ≤ cap ∧ w.cell? ⟨g, off, none⟩ = some (.int .i64 x) ∧
    QI w base (.slice (if cap = 1 then some ⟨g, off, none⟩ else some ⟨g, off + 1, none⟩) L.length (cap - 1)) L := by
  rcases h with ⟨h, _⟩ | ⟨g', off', cap', e, h1, h2, h3, h4, h5⟩
  · cases h
  · injection e with e1 e2 e3
    injection e1 with e1
    injection e1 with e1 e4
    subst e1; subst e3; subst e4
    rw [List.length_cons] at e2 h3 h4
    refine ⟨e2, h3, ?_, ?_⟩
    · have := h4 0 (by omega)
      rwa [Nat.add_zero] at this
    · by_cases hc : cap = 1
      · rw [if_pos hc]
        have : L = [] := List.eq_nil_of_length_eq_zero (by omega)
        subst this
        exact .inr ⟨g, off, cap - 1, rfl, h1, h2, Nat.zero_le _, fun j hj => (by simp at hj), fun j hj => by omega⟩
      · rw [if_neg hc]
        refine .inr ⟨g, off + 1, cap - 1, rfl, h1, h2, by omega, fun j hj => ?_, fun j hj => ?_⟩
        · have := h4 (j + 1) (by omega)
          rw [show off + 1 + j = off + (j + 1) by omega, this]
          rfl
        · rw [show off + 1 + j = off + (j + 1) by omega]
          exact h5 (j + 1) (by omega)
/-- Where a queue that is not empty lies. -/
theorem QI.at_ {w : World} {base : Nat} {v : Value} {x : Int} {L : List Int} (h : QI w base v (x :: L)) : ∃ g off cap, v = .slice (some ⟨g, off, none⟩) (L.length + 1) cap := by
  rcases h with ⟨_, h⟩ | ⟨g, off, cap, rfl, _⟩
  · cases h
  · exact ⟨g, off, cap, rfl⟩
theorem QI.len {w : World} {base : Nat} {v : Value} {L : List Int} (h : QI w base v L) : ∃ A cap, v = .slice A L.length cap ∧ L.length ≤ cap := by
  rcases h with ⟨rfl, rfl⟩ | ⟨g, off, cap, rfl, _, _, h, _⟩
  · exact ⟨none, 0, rfl, Nat.le_refl _⟩
  · exact ⟨_, cap, rfl, h⟩
theorem grown_trans {w1 w2 w3 : World} {r : Option Nat} (h : w1.grownBy w2 r) (k : w2.grownBy w3 r) : w1.grownBy w3 r :=
  ⟨k.os.trans h.os, k.tape.trans h.tape, k.output.trans h.output, Nat.le_trans h.size k.size, fun i hi hne => (k.block i (Nat.lt_of_lt_of_le hi h.size) hne).trans (h.block i hi hne)⟩
theorem getD_app {L : List Int} {x : Int} {j : Nat} (hj : j < L.length + 1) : (L ++ [x]).getD j 0 = if j = L.length then x else L.getD j 0 := by
  rw [List.getD_eq_getElem?_getD, List.getD_eq_getElem?_getD]
  by_cases h : j = L.length
  · rw [if_pos h, h]; simp
  · rw [if_neg h, List.getElem?_append_left (by omega)]
/-- 'b = append(b, x)', b a queue. -/
theorem app_q {ops : Array Oper} {rest : List Oper} {o : Oper} {a : Act} {Q : Exit → Act → World → Prop} {wr : World} {L : List Int} {x : Int} {v : Value} {base : Nat} (hgd : o.guard = none) (s z : Operand)
    (ho : o.op = .call { callee := .builtin .append, args := #[s, z], argTypes := #[22, 22] })
    (hs : a.eval s = v) (hown : QI wr base v L) (M : Nat) (hM : wr.heap.size = M) (hx : a.eval z = .slice (some ⟨M, 0, none⟩) 1 1)
    (hbase : base ≤ M) (hlen : L.length < 1000000)
    (h : ∀ v' w', QI w' base v' (L ++ [x]) → wr.grownBy w' v.ownBlock → (v'.ownBlock = v.ownBlock ∨ ∃ k, v'.ownBlock = some k ∧ M ≤ k) → wpList Try.prog ops Q rest (a.put o.dst v') w') :
    wpList Try.prog ops Q (o :: rest) a (wr.alloc (.cells #[.int .i64 x] 3)) := by
  subst hM
  obtain ⟨i0, hi, hz0, hz1, hz2⟩ := info_parts Try.infoInt
  have hW := World.grownBy_alloc wr (.cells #[.int .i64 x] 3) v.ownBlock
  have hsz : (wr.alloc (.cells #[.int .i64 x] 3)).heap.size = wr.heap.size + 1 := by simp
  have hq : QI (wr.alloc (.cells #[.int .i64 x] 3)) base v L := hown.keep hW.size fun k hk => by
    have := (hown.lt k hk).2
    exact Below.heap_alloc wr _ k this
  have hnew : ∀ j u, [Value.int .i64 x][j]? = some u → (wr.alloc (.cells #[.int .i64 x] 3)).cell? ((⟨wr.heap.size, 0, none⟩ : Addr).add j) = some u := by
    intro j u hj
    match j, hj with
    | 0, hj => simp at hj; subst hj; simp [Addr.add]
  have hone : ∀ u ∈ [Value.int .i64 x], u.oneCell' = true := fun u hu => by simp at hu; subst hu; rfl
  have grow : ∀ v' w', w'.ownsRow (wr.alloc (.cells #[.int .i64 x] 3)).heap.size 3 1 v' (L.length + 1) (L.map (Value.int .i64) ++ [Value.int .i64 x]) → (wr.alloc (.cells #[.int .i64 x] 3)).grownBy w' none → wpList Try.prog ops Q rest (a.put o.dst v') w' := by
    intro v' w' r1 r2
    have r3 : OwnI w' (wr.alloc (.cells #[.int .i64 x] 3)).heap.size v' (L ++ [x]) := by
      unfold OwnI
      rw [List.map_append, List.length_append]
      exact r1
    have r4 := QI.of_own r3
    refine h v' w' ?_ ?_ ?_
    · rcases r4 with r4 | ⟨g, off, cap, e, k1, k2⟩
      · exact .inl r4
      · exact .inr ⟨g, off, cap, e, by rw [hsz] at k1; omega, k2⟩
    · exact grown_trans hW ⟨r2.os, r2.tape, r2.output, r2.size, fun k hk _ => r2.block k hk (by simp)⟩
    · rcases r1.2 with ⟨_, e0⟩ | ⟨g, cap, cur, rfl, k1, _⟩
      · omega
      · exact .inr ⟨g, rfl, by rw [hsz] at k1; omega⟩
  rcases hq with ⟨rfl, rfl⟩ | ⟨g, off, cap, rfl, k1, k2, k3, k4, k5⟩
  · refine wpList_append_grows _ hgd s z 22 ho 3 i0 (.int .i64 0) 1 8 Try.underlying22 hi hz0 hz1 hz2 rfl (by decide) none 0 0 [] hs (fun _ => ⟨rfl, rfl⟩) rfl (fun b hb => by cases hb) ⟨wr.heap.size, 0, none⟩ 1 1 [.int .i64 x] hx rfl hnew hone (by decide) (by unfold maxLen; omega) (by omega) ?_
    exact grow
  · have hcells : ∀ j u, (L.map (Value.int .i64))[j]? = some u → (wr.alloc (.cells #[.int .i64 x] 3)).cell? ⟨g, off + j, none⟩ = some u := by
      intro j u hj
      have hj2 : j < L.length := by
        have := (List.getElem?_eq_some_iff.1 hj).1
        simpa using this
      rw [k4 j hj2]
      rw [List.getElem?_map, List.getElem?_eq_getElem hj2] at hj
      rw [List.getD_eq_getElem?_getD, List.getElem?_eq_getElem hj2]
      exact hj
    refine wpList_append_arg _ hgd s z 22 ho 3 i0 (.int .i64 0) 1 8 Try.underlying22 hi hz0 hz1 hz2 rfl (by decide) g off L.length cap (L.map (Value.int .i64)) hs (by simp) hcells ⟨wr.heap.size, 0, none⟩ 1 1 [.int .i64 x] hx rfl hnew hone ?_ (by unfold maxLen; omega) (by omega) ?_ (fun _ => grow)
    · intro hr j hj
      have hj0 : j = 0 := by simpa using hj
      subst hj0
      rw [Nat.mul_one, Nat.add_zero]
      exact k5 L.length (by omega)
    · intro hr
      rw [Nat.mul_one]
      have hset : (wr.alloc (.cells #[.int .i64 x] 3)).setCells g (off + L.length) [.int .i64 x] = (wr.alloc (.cells #[.int .i64 x] 3)).setCell ⟨g, off + L.length, none⟩ (.int .i64 x) := rfl
      rw [hset]
      refine h _ _ ?_ ?_ (.inl rfl)
      · refine .inr ⟨g, off, cap, by rw [List.length_append]; rfl, k1, by simpa using k2, by rw [List.length_append]; exact hr, fun j hj => ?_, fun j hj => ?_⟩
        · have hj' : j < L.length + 1 := by rw [List.length_append] at hj; exact hj
          rw [getD_app hj']
          by_cases e : j = L.length
          · rw [if_pos e, e]
            obtain ⟨u, hu⟩ := Option.isSome_iff_exists.1 (k5 L.length (by omega)).1
            exact World.cell?_setCell_same _ _ _ hu
          · rw [if_neg e, World.cell?_setCell_other _ _ _ _ (by intro h'; injection h' with _ h''; omega)]
            exact k4 j (by omega)
        · have hf : ((wr.alloc (.cells #[.int .i64 x] 3)).setCell ⟨g, off + L.length, none⟩ (.int .i64 x)).frozen? ⟨g, off + j, none⟩ = (wr.alloc (.cells #[.int .i64 x] 3)).frozen? ⟨g, off + j, none⟩ := by simp
          refine ⟨?_, hf.trans (k5 j hj).2⟩
          by_cases e : j = L.length
          · rw [e]
            obtain ⟨u, hu⟩ := Option.isSome_iff_exists.1 (k5 L.length (by omega)).1
            rw [World.cell?_setCell_same _ _ _ hu]
            rfl
          · rw [World.cell?_setCell_other _ _ _ _ (by intro h'; injection h' with _ h''; omega)]
            exact (k5 j hj).1
      · have hb := (Below.refl 0 (wr.alloc (.cells #[.int .i64 x] 3))).setCell (p := ⟨g, off + L.length, none⟩) (Nat.zero_le _) (.int .i64 x)
        refine grown_trans hW ⟨hb.os, hb.tape, hb.output, hb.size, fun k _ hne => ?_⟩
        exact Below.heap_setCell _ _ _ k (fun e => hne (by rw [e]; rfl))
end Go.Proofs.Ytppochjhodafdaa
