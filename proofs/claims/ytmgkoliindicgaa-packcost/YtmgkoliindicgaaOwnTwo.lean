
/-
Two rows of numbers of the program's own, beside each other: appending to one, storing into one, and what that leaves of the other.
-/
import Derived.Test.YtmgkoliindicgaaConcatI
import Derived.Test.YtmgkoliindicgaaSRows
import Derived.Maps.AppendAt
namespace Go.Proofs.Ytmgkoliindicgaa
open Go.RowKit

/-- 'out = append(out, n)': .. and what else turned. -/
theorem app_int2 {ops : Array Oper} {rest : List Oper} {o : Oper} {a : Act} {Q : Exit → Act → World → Prop} {wr : World} {L : List Int} {n : Int} {v : Value} {base : Nat} (hgd : o.guard = none) (s x : Operand)
    (ho : o.op = .call { callee := .builtin .append, args := #[s, x], argTypes := #[23, 23] })
    (hs : a.eval s = v) (hown : OwnI wr base v L) (N : Nat) (hN : wr.heap.size = N) (hx : a.eval x = .slice (some ⟨N, 0, none⟩) 1 1)
    (hbase : base ≤ N) (hlen : L.length < 1000000)
    (h : ∀ v' w', OwnI w' base v' (L ++ [n]) → Below base wr w' → wr.grownBy w' v.ownBlock → (v'.ownBlock = v.ownBlock ∨ ∃ k, v'.ownBlock = some k ∧ N ≤ k) → wpList Try.prog ops Q rest (a.put o.dst v') w') :
    wpList Try.prog ops Q (o :: rest) a (wr.alloc (.cells #[.int .i64 n] 3)) := by
  subst hN
  obtain ⟨i0, hi, hz0, hz1, hz2⟩ := info_parts Try.infoInt
  refine wpList_append_own_at _ hgd s x 23 ho base 3 i0 (.int .i64 0) 1 8 Try.underlying23 hi hz0 hz1 hz2 rfl (by decide) v _ _ hs (World.ownsRow.alloc hown _) ⟨wr.heap.size, 0, none⟩ 1 1 [.int .i64 n] hx rfl ?_ ?_ ?_ ?_ ?_ ?_
  · intro j u hj
    match j, hj with
    | 0, hj => simp at hj; subst hj; simp [Addr.add]
  · intro u hu; simp at hu; subst hu; rfl
  · unfold maxLen; omega
  · omega
  · simp; omega
  · intro v' w' h1 h2 _ h5
    refine h v' w' (by unfold OwnI; simpa using h1) ?_ ?_ ?_
    · have hb : Below base wr (wr.alloc (.cells #[.int .i64 n] 3)) := (Below.refl _ _).alloc hbase _
      exact hb.grown h2 (by simp; omega) fun k hk => ((World.ownsRow.lt hown k hk).1)
    · have h3 := World.grownBy_alloc wr (.cells #[.int .i64 n] 3) v.ownBlock
      exact ⟨h2.os.trans h3.os, h2.tape.trans h3.tape, h2.output.trans h3.output, Nat.le_trans h3.size h2.size, fun i hi hne => (h2.block i (Nat.lt_of_lt_of_le hi h3.size) hne).trans (h3.block i hi hne)⟩
    · rcases h5 with h5 | h5
      · exact .inl h5
      · exact .inr ⟨_, h5, by simp⟩
theorem OwnI.low {w w' : World} {base : Nat} {v : Value} {L : List Int} (h : OwnI w base v L) (hb : Below w.heap.size w w') : OwnI w' base v L := own_of_block h (fun k hk => hb.block k (World.ownsRow.lt h k hk).2)
/-- Two rows that lie apart. -/
def Aside (v u : Value) : Prop := ∀ k, v.ownBlock = some k → u.ownBlock ≠ some k
theorem OwnI.beside {w w' : World} {base : Nat} {v u : Value} {L : List Int} (h : OwnI w base u L) (hg : w.grownBy w' v.ownBlock) (ha : Aside v u) : OwnI w' base u L :=
  own_of_block h fun k hk => hg.block k (World.ownsRow.lt h k hk).2 fun e => ha k e.symm hk
theorem OwnI.lt_ {w : World} {base : Nat} {v : Value} {L : List Int} (h : OwnI w base v L) : ∀ k, v.ownBlock = some k → k < w.heap.size := fun k hk => (World.ownsRow.lt h k hk).2
theorem Aside.new_l {v v' u : Value} {M : Nat} (h : Aside v u) (hu : ∀ k, u.ownBlock = some k → k < M) (hv : v'.ownBlock = v.ownBlock ∨ ∃ k, v'.ownBlock = some k ∧ M ≤ k) : Aside v' u := by
  intro k hk hku
  rcases hv with hv | ⟨j, hj, hM⟩
  · exact h k (hv ▸ hk) hku
  · rw [hj] at hk
    injection hk with hk
    subst hk
    have := hu _ hku
    omega
theorem Aside.symm {v u : Value} (h : Aside v u) : Aside u v := fun k h1 h2 => h k h2 h1
/-- A row with at least one number: where it lies. -/
theorem OwnI.at_ {w : World} {base : Nat} {v : Value} {L : List Int} (h : OwnI w base v L) (h0 : 0 < L.length) : ∃ g c, v = .slice (some ⟨g, 0, none⟩) L.length c ∧ L.length ≤ c ∧ base ≤ g ∧ g < w.heap.size := by
  have hlt := World.ownsRow.lt h
  rcases h.2 with ⟨rfl, h1⟩ | ⟨g, cap, cur, rfl, h1, h2, h3, _⟩
  · omega
  · exact ⟨g, cap, rfl, h3, h1, (hlt g rfl).2⟩
theorem OwnI.cell {w : World} {base g n c : Nat} {L : List Int} (h : OwnI w base (.slice (some ⟨g, 0, none⟩) n c) L) (hn : n = L.length) {j : Nat} (hj : j < L.length) : w.cell? ⟨g, j, none⟩ = some (.int .i64 (L.getD j 0)) ∧ w.frozen? ⟨g, j, none⟩ = false := by
  subst hn
  refine ⟨?_, World.ownsRow.frozenAt h j⟩
  rw [World.ownsRow.cellAt h j (by omega)]
  simp [List.getElem?_eq_getElem hj, List.getD_eq_getElem?_getD]
theorem OwnI.store {w : World} {base g n c : Nat} {L : List Int} (h : OwnI w base (.slice (some ⟨g, 0, none⟩) n c) L) (hn : n = L.length) (j : Nat) (x : Int) : OwnI (w.setCell ⟨g, j, none⟩ (.int .i64 x)) base (.slice (some ⟨g, 0, none⟩) n c) (L.set j x) ∧ w.grownBy (w.setCell ⟨g, j, none⟩ (.int .i64 x)) (some g) := by
  subst hn
  obtain ⟨h1, h2⟩ := World.ownsRow.stored h j (.int .i64 x)
  refine ⟨?_, h2⟩
  unfold OwnI
  rw [List.length_set, List.map_set]
  exact h1
theorem rowN'_set {f f' : Nat → Int} {n r : Nat} {x : Int} (hf : ∀ j, j < n → f' j = if j = r then x else f j) : (rowN' f n).set r x = rowN' f' n := by
  unfold rowN'
  refine List.ext_getElem (by simp) fun i h1 h2 => ?_
  have h3 : i < n := by simpa using h2
  rw [List.getElem_set, List.getElem_map, List.getElem_map, List.getElem_range]
  have h4 := hf i h3
  by_cases e : i = r
  · rw [if_pos e] at h4
    rw [if_pos e.symm, h4]
  · rw [if_neg e] at h4
    rw [if_neg (fun h => e h.symm), h4]
end Go.Proofs.Ytmgkoliindicgaa
