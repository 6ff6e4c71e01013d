
/-
Two rows of the program's own beside each other (numbers; bytes): appending to one, and what that leaves of the other.
-/
import Derived.Test.YtejcijlmpiiffaaBase
import Derived.Maps.AppendAt
namespace Go.Proofs.Ytejcijlmpiiffaa
open Go.RowKit

theorem own_blk {w w' : World} {base n : Nat} {e : TypeId} {size : Nat} {v : Value} {xs : List Value} (h : w.ownsRow base e size v n xs) (hb : ∀ k, v.ownBlock = some k → w'.heap[k]? = w.heap[k]?) : w'.ownsRow base e size v n xs := by
  refine ⟨h.1, ?_⟩
  rcases h.2 with hn | ⟨g, cap, cur, rfl, h1, h2, rest⟩
  · exact .inl hn
  · exact .inr ⟨g, cap, cur, rfl, h1, by rw [hb g rfl]; exact h2, rest⟩
/-- Two rows that lie apart. -/
def Apt (v u : Value) : Prop := ∀ k, v.ownBlock = some k → u.ownBlock ≠ some k
theorem Apt.turn {v u : Value} (h : Apt v u) : Apt u v := fun k h1 h2 => h k h2 h1
theorem Apt.zero (u : Value) : Apt (.slice none 0 0) u := fun k hk => by cases hk
theorem Apt.next {v v' u : Value} {M : Nat} (h : Apt v u) (hu : ∀ k, u.ownBlock = some k → k < M) (hv : v'.ownBlock = v.ownBlock ∨ ∃ k, v'.ownBlock = some k ∧ M ≤ k) : Apt v' u := by
  intro k hk hku
  rcases hv with hv | ⟨j, hj, hM⟩
  · exact h k (hv ▸ hk) hku
  · rw [hj] at hk
    injection hk with hk
    subst hk
    have := hu _ hku
    omega
theorem OwnI.old {w w' : World} {base : Nat} {v : Value} {L : List Int} (h : OwnI w base v L) (hb : Below w.heap.size w w') : OwnI w' base v L := own_blk h (fun k hk => hb.block k (World.ownsRow.lt h k hk).2)
theorem OwnI.apt {w w' : World} {base : Nat} {v u : Value} {L : List Int} (h : OwnI w base u L) (hg : w.grownBy w' v.ownBlock) (ha : Apt v u) : OwnI w' base u L :=
  own_blk h fun k hk => hg.block k (World.ownsRow.lt h k hk).2 fun e => ha k e.symm hk
theorem OwnI.blk {w : World} {base : Nat} {v : Value} {L : List Int} (h : OwnI w base v L) : ∀ k, v.ownBlock = some k → k < w.heap.size := fun k hk => (World.ownsRow.lt h k hk).2
theorem own_low {w : World} {base base' n : Nat} {e : TypeId} {size : Nat} {v : Value} {xs : List Value} (h : w.ownsRow base e size v n xs) (hb : base' ≤ base) : w.ownsRow base' e size v n xs := by
  refine ⟨h.1, ?_⟩
  rcases h.2 with hn | ⟨g, cap, cur, rfl, h1, rest⟩
  · exact .inl hn
  · exact .inr ⟨g, cap, cur, rfl, Nat.le_trans hb h1, rest⟩
/-- 'out = append(out, n)', and what else turned. -/
theorem app_intT {ops : Array Oper} {rest : List Oper} {o : Oper} {a : Act} {Q : Exit → Act → World → Prop} {wr : World} {L : List Int} {n : Int} {v : Value} {base : Nat} (hgd : o.guard = none) (s x : Operand)
    (ho : o.op = .call { callee := .builtin .append, args := #[s, x], argTypes := #[45, 45] })
    (hs : a.eval s = v) (hown : OwnI wr base v L) (N : Nat) (hN : wr.heap.size = N) (hx : a.eval x = .slice (some ⟨N, 0, none⟩) 1 1)
    (hbase : base ≤ N) (hlen : L.length < 1000000)
    (h : ∀ v' w', OwnI w' base v' (L ++ [n]) → Below base wr w' → wr.grownBy w' v.ownBlock → (v'.ownBlock = v.ownBlock ∨ ∃ k, v'.ownBlock = some k ∧ N ≤ k) → wpList Try.prog ops Q rest (a.put o.dst v') w') :
    wpList Try.prog ops Q (o :: rest) a (wr.alloc (.cells #[.int .i64 n] 3)) := by
  subst hN
  obtain ⟨i0, hi, hz0, hz1, hz2⟩ := info_parts Try.infoInt
  refine wpList_append_own_at _ hgd s x 45 ho base 3 i0 (.int .i64 0) 1 8 Try.underlying45 hi hz0 hz1 hz2 rfl (by decide) v _ _ hs (World.ownsRow.alloc hown _) ⟨wr.heap.size, 0, none⟩ 1 1 [.int .i64 n] hx rfl ?_ ?_ ?_ ?_ ?_ ?_
  · intro j u hj
    match j, hj with
    | 0, hj => simp at hj; subst hj; simp [Addr.add]
  · intro u hu; simp at hu; subst hu; rfl
  · unfold maxLen; omega
  · omega
  · simp; omega
  · intro v' w' h1 h2 _ h5
    refine h v' w' (by unfold OwnI; simpa using h1) ?_ ?_ ?_
    · have hb : Below base wr (wr.alloc (.cells #[.int .i64 n] 3)) := (Below.refl _ _).alloc hbase _
      exact hb.grown h2 (by simp; omega) fun k hk => ((World.ownsRow.lt hown k hk).1)
    · have h3 := World.grownBy_alloc wr (.cells #[.int .i64 n] 3) v.ownBlock
      exact ⟨h2.os.trans h3.os, h2.tape.trans h3.tape, h2.output.trans h3.output, Nat.le_trans h3.size h2.size, fun i hi hne => (h2.block i (Nat.lt_of_lt_of_le hi h3.size) hne).trans (h3.block i hi hne)⟩
    · rcases h5 with h5 | h5
      · exact .inl h5
      · exact .inr ⟨_, h5, by simp⟩
/-- Natural numbers as the program's. -/
def ofN (L : List Nat) : List Int := L.map Int.ofNat
theorem ofN_len (L : List Nat) : (ofN L).length = L.length := by unfold ofN; simp
theorem ofN_get (L : List Nat) (k : Nat) : (ofN L).getD k 0 = ((L.getD k 0 : Nat) : Int) := by
  unfold ofN
  rw [List.getD_eq_getElem?_getD, List.getElem?_map, List.getD_eq_getElem?_getD]
  cases L[k]? <;> rfl
theorem ofN_snoc (L : List Nat) (k : Nat) : ofN (L ++ [k]) = ofN L ++ [(k : Int)] := by unfold ofN; simp
end Go.Proofs.Ytejcijlmpiiffaa
