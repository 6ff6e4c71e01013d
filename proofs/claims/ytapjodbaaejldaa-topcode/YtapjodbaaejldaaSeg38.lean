/-
Several texts of this proof, one behind the other.
-/
import Derived.Test.YtapjodbaaejldaaConcatI
import Derived.Test.YtapjodbaaejldaaSRows
import Derived.Maps.AppendAt

/-
Two rows of numbers of the program's own, beside each other: appending to one, storing into one, and what that leaves of the other.
-/
namespace Go.Proofs.Ytapjodbaaejldaa
open Go.RowKit

/-- 'out = append(out, n)': .. and what else turned. -/
theorem app_int2 {ops : Array Oper} {rest : List Oper} {o : Oper} {a : Act} {Q : Exit → Act → World → Prop} {wr : World} {L : List Int} {n : Int} {v : Value} {base : Nat} (hgd : o.guard = none) (s x : Operand)
    (ho : o.op = .call { callee := .builtin .append, args := #[s, x], argTypes := #[53, 53] })
    (hs : a.eval s = v) (hown : OwnI wr base v L) (N : Nat) (hN : wr.heap.size = N) (hx : a.eval x = .slice (some ⟨N, 0, none⟩) 1 1)
    (hbase : base ≤ N) (hlen : L.length < 1000000)
    (h : ∀ v' w', OwnI w' base v' (L ++ [n]) → Below base wr w' → wr.grownBy w' v.ownBlock → (v'.ownBlock = v.ownBlock ∨ ∃ k, v'.ownBlock = some k ∧ N ≤ k) → wpList Try.prog ops Q rest (a.put o.dst v') w') :
    wpList Try.prog ops Q (o :: rest) a (wr.alloc (.cells #[.int .i64 n] 3)) := by
  subst hN
  obtain ⟨i0, hi, hz0, hz1, hz2⟩ := info_parts Try.infoInt
  refine wpList_append_own_at _ hgd s x 53 ho base 3 i0 (.int .i64 0) 1 8 Try.underlying53 hi hz0 hz1 hz2 rfl (by decide) v _ _ hs (World.ownsRow.alloc hown _) ⟨wr.heap.size, 0, none⟩ 1 1 [.int .i64 n] hx rfl ?_ ?_ ?_ ?_ ?_ ?_
  · intro j u hj
    match j, hj with
    | 0, hj => simp at hj; subst hj; simp [Addr.add]
  · intro u hu; simp at hu; subst hu; rfl
  · unfold maxLen; omega
  · omega
  · simp; omega
  · intro v' w' h1 h2 _ h5
    refine h v' w' (by unfold OwnI; simpa using h1) ?_ ?_ ?_
    · have hb : Below base wr (wr.alloc (.cells #[.int .i64 n] 3)) := (Below.refl _ _).alloc hbase _
      exact hb.grown h2 (by simp; omega) fun k hk => ((World.ownsRow.lt hown k hk).1)
    · have h3 := World.grownBy_alloc wr (.cells #[.int .i64 n] 3) v.ownBlock
      exact ⟨h2.os.trans h3.os, h2.tape.trans h3.tape, h2.output.trans h3.output, Nat.le_trans h3.size h2.size, fun i hi hne => (h2.block i (Nat.lt_of_lt_of_le hi h3.size) hne).trans (h3.block i hi hne)⟩
    · rcases h5 with h5 | h5
      · exact .inl h5
      · exact .inr ⟨_, h5, by simp⟩
theorem OwnI.low {w w' : World} {base : Nat} {v : Value} {L : List Int} (h : OwnI w base v L) (hb : Below w.heap.size w w') : OwnI w' base v L := own_of_block h (fun k hk => hb.block k (World.ownsRow.lt h k hk).2)
/-- Two rows that lie apart. -/
def Aside (v u : Value) : Prop := ∀ k, v.ownBlock = some k → u.ownBlock ≠ some k
theorem OwnI.beside {w w' : World} {base : Nat} {v u : Value} {L : List Int} (h : OwnI w base u L) (hg : w.grownBy w' v.ownBlock) (ha : Aside v u) : OwnI w' base u L :=
  own_of_block h fun k hk => hg.block k (World.ownsRow.lt h k hk).2 fun e => ha k e.symm hk
theorem OwnI.lt_ {w : World} {base : Nat} {v : Value} {L : List Int} (h : OwnI w base v L) : ∀ k, v.ownBlock = some k → k < w.heap.size := fun k hk => (World.ownsRow.lt h k hk).2
theorem Aside.new_l {v v' u : Value} {M : Nat} (h : Aside v u) (hu : ∀ k, u.ownBlock = some k → k < M) (hv : v'.ownBlock = v.ownBlock ∨ ∃ k, v'.ownBlock = some k ∧ M ≤ k) : Aside v' u := by
  intro k hk hku
  rcases hv with hv | ⟨j, hj, hM⟩
  · exact h k (hv ▸ hk) hku
  · rw [hj] at hk
    injection hk with hk
    subst hk
    have := hu _ hku
    omega
theorem Aside.symm {v u : Value} (h : Aside v u) : Aside u v := fun k h1 h2 => h k h2 h1
/-- A row with at least one number: where it lies. -/
theorem OwnI.at_ {w : World} {base : Nat} {v : Value} {L : List Int} (h : OwnI w base v L) (h0 : 0 < L.length) : ∃ g c, v = .slice (some ⟨g, 0, none⟩) L.length c ∧ L.length ≤ c ∧ base ≤ g ∧ g < w.heap.size := by
  have hlt := World.ownsRow.lt h
  rcases h.2 with ⟨rfl, h1⟩ | ⟨g, cap, cur, rfl, h1, h2, h3, _⟩
  · omega
  · exact ⟨g, cap, rfl, h3, h1, (hlt g rfl).2⟩
theorem OwnI.cell {w : World} {base g n c : Nat} {L : List Int} (h : OwnI w base (.slice (some ⟨g, 0, none⟩) n c) L) (hn : n = L.length) {j : Nat} (hj : j < L.length) : w.cell? ⟨g, j, none⟩ = some (.int .i64 (L.getD j 0)) ∧ w.frozen? ⟨g, j, none⟩ = false := by
  subst hn
  refine ⟨?_, World.ownsRow.frozenAt h j⟩
  rw [World.ownsRow.cellAt h j (by omega)]
  simp [List.getElem?_eq_getElem hj, List.getD_eq_getElem?_getD]
theorem OwnI.store {w : World} {base g n c : Nat} {L : List Int} (h : OwnI w base (.slice (some ⟨g, 0, none⟩) n c) L) (hn : n = L.length) (j : Nat) (x : Int) : OwnI (w.setCell ⟨g, j, none⟩ (.int .i64 x)) base (.slice (some ⟨g, 0, none⟩) n c) (L.set j x) ∧ w.grownBy (w.setCell ⟨g, j, none⟩ (.int .i64 x)) (some g) := by
  subst hn
  obtain ⟨h1, h2⟩ := World.ownsRow.stored h j (.int .i64 x)
  refine ⟨?_, h2⟩
  unfold OwnI
  rw [List.length_set, List.map_set]
  exact h1
theorem rowN'_set {f f' : Nat → Int} {n r : Nat} {x : Int} (hf : ∀ j, j < n → f' j = if j = r then x else f j) : (rowN' f n).set r x = rowN' f' n := by
  unfold rowN'
  refine List.ext_getElem (by simp) fun i h1 h2 => ?_
  have h3 : i < n := by simpa using h2
  rw [List.getElem_set, List.getElem_map, List.getElem_map, List.getElem_range]
  have h4 := hf i h3
  by_cases e : i = r
  · rw [if_pos e] at h4
    rw [if_pos e.symm, h4]
  · rw [if_neg e] at h4
    rw [if_neg (fun h => e h.symm), h4]
end Go.Proofs.Ytapjodbaaejldaa


/-
Three rows of numbers beside each other (signs, how often each, the text by the signs' places), and what TopCode's first loop keeps of them.
-/
namespace Go.Proofs.Ytapjodbaaejldaa
open Go.RowKit

/-- Three rows of the call's own, apart from each other; below 'base' all is as it was. -/
structure Tri (w1 W : World) (base : Nat) (s : Value) (S : List Int) (g : Value) (G : List Int) (t : Value) (T : List Int) : Prop where
  below : Below base w1 W
  size : base ≤ W.heap.size
  one : OwnI W base s S
  two : OwnI W base g G
  three : OwnI W base t T
  sg : Aside s g
  st : Aside s t
  gt : Aside g t
theorem Tri.app1 {w1 W w' : World} {base : Nat} {s g t s' : Value} {S G T S' : List Int} (h : Tri w1 W base s S g G t T) (hown : OwnI w' base s' S') (hb : Below base W w') (hg : W.grownBy w' s.ownBlock) (hv : s'.ownBlock = s.ownBlock ∨ ∃ k, s'.ownBlock = some k ∧ W.heap.size ≤ k) : Tri w1 w' base s' S' g G t T :=
  ⟨h.below.trans hb, Nat.le_trans h.size hb.size, hown, h.two.beside hg h.sg, h.three.beside hg h.st, h.sg.new_l h.two.lt_ hv, h.st.new_l h.three.lt_ hv, h.gt⟩
theorem Tri.app2 {w1 W w' : World} {base : Nat} {s g t g' : Value} {S G T G' : List Int} (h : Tri w1 W base s S g G t T) (hown : OwnI w' base g' G') (hb : Below base W w') (hg : W.grownBy w' g.ownBlock) (hv : g'.ownBlock = g.ownBlock ∨ ∃ k, g'.ownBlock = some k ∧ W.heap.size ≤ k) : Tri w1 w' base s S g' G' t T :=
  ⟨h.below.trans hb, Nat.le_trans h.size hb.size, h.one.beside hg h.sg.symm, hown, h.three.beside hg h.gt, (h.sg.symm.new_l h.one.lt_ hv).symm, h.st, h.gt.new_l h.three.lt_ hv⟩
theorem Tri.app3 {w1 W w' : World} {base : Nat} {s g t t' : Value} {S G T T' : List Int} (h : Tri w1 W base s S g G t T) (hown : OwnI w' base t' T') (hb : Below base W w') (hg : W.grownBy w' t.ownBlock) (hv : t'.ownBlock = t.ownBlock ∨ ∃ k, t'.ownBlock = some k ∧ W.heap.size ≤ k) : Tri w1 w' base s S g G t' T' :=
  ⟨h.below.trans hb, Nat.le_trans h.size hb.size, h.one.beside hg h.st.symm, h.two.beside hg h.gt.symm, hown, h.sg, (h.st.symm.new_l h.one.lt_ hv).symm, (h.gt.symm.new_l h.two.lt_ hv).symm⟩
theorem Tri.drewN {w1 W : World} {base : Nat} {s g t : Value} {S G T : List Int} (h : Tri w1 W base s S g G t T) (d : Nat) : Tri w1 (W.drewN d) base s S g G t T :=
  ⟨bl_drewN h.below d, h.size, h.one, h.two, h.three, h.sg, h.st, h.gt⟩
theorem Tri.store {w1 W : World} {base b n c : Nat} {s t : Value} {S G T : List Int} (h : Tri w1 W base s S (.slice (some ⟨b, 0, none⟩) n c) G t T) (hn : n = G.length) (hb : base ≤ b) (j : Nat) (x : Int) : Tri w1 (W.setCell ⟨b, j, none⟩ (.int .i64 x)) base s S (.slice (some ⟨b, 0, none⟩) n c) (G.set j x) t T := by
  obtain ⟨h1, h2⟩ := h.two.store hn j x
  exact h.app2 h1 ((Below.refl _ _).setCell hb _) h2 (.inl rfl)
/-- What the loop keeps when it is at i. -/
structure Cd (l : Nat → Int) (i : Nat) (S G T : List Int) : Prop where
  tl : T.length = i
  gl : G.length = S.length
  sl : S.length ≤ i
  at_ : ∀ j, j < i → ∃ k : Nat, T.getD j 0 = (k : Int) ∧ k < S.length ∧ S.getD k 0 = l j
  few : ∀ k, k < S.length → 1 ≤ G.getD k 0 ∧ G.getD k 0 ≤ (i : Int)
theorem Cd.zero (l : Nat → Int) : Cd l 0 [] [] [] := ⟨rfl, rfl, Nat.le_refl _, fun _ hj => absurd hj (Nat.not_lt_zero _), fun _ hk => absurd hk (Nat.not_lt_zero _)⟩
theorem app_l {L : List Int} {x : Int} {k : Nat} (h : k < L.length) : (L ++ [x]).getD k 0 = L.getD k 0 := by
  rw [List.getD_eq_getElem?_getD, List.getElem?_append_left h, ← List.getD_eq_getElem?_getD]
theorem app_r (L : List Int) (x : Int) : (L ++ [x]).getD L.length 0 = x := by
  rw [List.getD_eq_getElem?_getD, List.getElem?_append_right (Nat.le_refl _), Nat.sub_self]; rfl
theorem set_at {L : List Int} {x : Int} {j k : Nat} (h : k < L.length) : (L.set j x).getD k 0 = if j = k then x else L.getD k 0 := by
  rw [List.getD_eq_getElem?_getD, List.getElem?_set]
  by_cases e : j = k
  · rw [if_pos e, if_pos e, if_pos (by omega)]; rfl
  · rw [if_neg e, if_neg e, ← List.getD_eq_getElem?_getD]
/-- A sign that was there. -/
theorem Cd.old {l : Nat → Int} {i k : Nat} {S G T : List Int} (h : Cd l i S G T) (hk : k < S.length) (e : S.getD k 0 = l i) : Cd l (i + 1) S (G.set k (G.getD k 0 + 1)) (T ++ [(k : Int)]) := by
  refine ⟨by rw [List.length_append, h.tl]; rfl, by rw [List.length_set, h.gl], Nat.le_succ_of_le h.sl, fun j hj => ?_, fun m hm => ?_⟩
  · by_cases q : j < i
    · rw [app_l (by rw [h.tl]; exact q)]; exact h.at_ j q
    · obtain rfl : j = i := by omega
      refine ⟨k, ?_, hk, e⟩
      have := app_r T (k : Int)
      rw [h.tl] at this
      exact this
  · have h1 := h.few m hm
    rw [set_at (by rw [h.gl]; exact hm)]
    by_cases q : k = m
    · rw [if_pos q, q]; omega
    · rw [if_neg q]; omega
/-- A new one. -/
theorem Cd.new {l : Nat → Int} {i : Nat} {S G T : List Int} (h : Cd l i S G T) : Cd l (i + 1) (S ++ [l i]) ((G ++ [0]).set S.length 1) (T ++ [(S.length : Int)]) := by
  have hS : (S ++ [l i]).length = S.length + 1 := by rw [List.length_append]; rfl
  have hG : (G ++ [0]).length = S.length + 1 := by rw [List.length_append, h.gl]; rfl
  have hs := h.sl
  refine ⟨by rw [List.length_append, h.tl]; rfl, by rw [List.length_set, hG, hS], by omega, fun j hj => ?_, fun m hm => ?_⟩
  · by_cases q : j < i
    · rw [app_l (by rw [h.tl]; exact q)]
      obtain ⟨k, k1, k2, k3⟩ := h.at_ j q
      exact ⟨k, k1, by omega, by rw [app_l k2]; exact k3⟩
    · obtain rfl : j = i := by omega
      refine ⟨S.length, ?_, by omega, app_r S _⟩
      have := app_r T (S.length : Int)
      rw [h.tl] at this
      exact this
  · rw [set_at (by omega)]
    by_cases q : S.length = m
    · rw [if_pos q]; omega
    · rw [if_neg q, app_l (by rw [h.gl]; omega)]
      have := h.few m (by omega)
      omega
end Go.Proofs.Ytapjodbaaejldaa

