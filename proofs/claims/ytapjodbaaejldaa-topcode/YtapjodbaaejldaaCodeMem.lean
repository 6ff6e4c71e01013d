
/-
Rows of words of the program's own, beside other rows: appending one, and what else turned.
-/
import Derived.Test.YtapjodbaaejldaaSeg29
import Derived.Test.YtapjodbaaejldaaSortW
import Derived.Maps.AppendAt
namespace Go.Proofs.Ytapjodbaaejldaa
open Go.RowKit

/-- 'm = append(m, x)': .. and what else turned. -/
theorem app_lst2 {ops : Array Oper} {rest : List Oper} {o : Oper} {a : Act} {Q : Exit → Act → World → Prop} {wr : World} {N : List (List UInt8)} {x : ByteArray} {v : Value} {base : Nat} (hgd : o.guard = none) (s z : Operand)
    (ho : o.op = .call { callee := .builtin .append, args := #[s, z], argTypes := #[57, 57] })
    (hs : a.eval s = v) (hown : OwnL wr base v N) (M : Nat) (hM : wr.heap.size = M) (hx : a.eval z = .slice (some ⟨M, 0, none⟩) 1 1)
    (hbase : base ≤ M) (hlen : (N.length + 1) * 16 ≤ 140737488355328)
    (h : ∀ v' w', OwnL w' base v' (N ++ [wd x]) → Below base wr w' → wr.grownBy w' v.ownBlock → (v'.ownBlock = v.ownBlock ∨ ∃ k, v'.ownBlock = some k ∧ M ≤ k) → wpList Try.prog ops Q rest (a.put o.dst v') w') :
    wpList Try.prog ops Q (o :: rest) a (wr.alloc (.cells #[.string x] 9)) := by
  subst hM
  obtain ⟨i0, hi, hz0, hz1, hz2⟩ := info_parts Try.infoStr'
  refine wpList_append_own_at _ hgd s z 57 ho base 9 i0 (.string ⟨#[]⟩) 1 16 Try.underlying57 hi hz0 hz1 hz2 rfl (by decide) v _ _ hs (World.ownsRow.alloc hown _) ⟨wr.heap.size, 0, none⟩ 1 1 [.string x] hx rfl ?_ ?_ ?_ ?_ ?_ ?_
  · intro j u hj
    match j, hj with
    | 0, hj => simp at hj; subst hj; simp [Addr.add]
  · intro u hu; simp at hu; subst hu; rfl
  · unfold maxLen; omega
  · omega
  · simp; omega
  · intro v' w' h1 h2 _ h5
    refine h v' w' ?_ ?_ ?_ ?_
    · unfold OwnL
      rw [List.map_append, List.length_append]
      have e : [wd x].map Go.Proofs.encStr = [.string x] := by
        show [Go.Proofs.encStr (lst x)] = _
        rw [enc_lst]
      rw [e]
      exact h1
    · have hb : Below base wr (wr.alloc (.cells #[.string x] 9)) := (Below.refl _ _).alloc hbase _
      exact hb.grown h2 (by simp; omega) fun k hk => ((World.ownsRow.lt hown k hk).1)
    · have h3 := World.grownBy_alloc wr (.cells #[.string x] 9) v.ownBlock
      exact ⟨h2.os.trans h3.os, h2.tape.trans h3.tape, h2.output.trans h3.output, Nat.le_trans h3.size h2.size, fun i hi hne => (h2.block i (Nat.lt_of_lt_of_le hi h3.size) hne).trans (h3.block i hi hne)⟩
    · rcases h5 with h5 | h5
      · exact .inl h5
      · exact .inr ⟨_, h5, by simp⟩
theorem OwnL.low {w w' : World} {base : Nat} {v : Value} {L : List (List UInt8)} (h : OwnL w base v L) (hb : Below w.heap.size w w') : OwnL w' base v L := own_of_block h (fun k hk => hb.block k (World.ownsRow.lt h k hk).2)
/-- Two rows that lie apart. -/
def Apart (v u : Value) : Prop := ∀ k, v.ownBlock = some k → u.ownBlock ≠ some k
theorem OwnL.beside {w w' : World} {base : Nat} {v u : Value} {L : List (List UInt8)} (h : OwnL w base u L) (hg : w.grownBy w' v.ownBlock) (ha : Apart v u) : OwnL w' base u L :=
  own_of_block h fun k hk => hg.block k (World.ownsRow.lt h k hk).2 fun e => ha k e.symm hk
theorem OwnL.lt_ {w : World} {base : Nat} {v : Value} {L : List (List UInt8)} (h : OwnL w base v L) : ∀ k, v.ownBlock = some k → k < w.heap.size := fun k hk => (World.ownsRow.lt h k hk).2
theorem Apart.new_l {v v' u : Value} {M : Nat} (h : Apart v u) (hu : ∀ k, u.ownBlock = some k → k < M) (hv : v'.ownBlock = v.ownBlock ∨ ∃ k, v'.ownBlock = some k ∧ M ≤ k) : Apart v' u := by
  intro k hk hku
  rcases hv with hv | ⟨j, hj, hM⟩
  · exact h k (hv ▸ hk) hku
  · rw [hj] at hk
    injection hk with hk
    subst hk
    have := hu _ hku
    omega
theorem Apart.symm {v u : Value} (h : Apart v u) : Apart u v := fun k h1 h2 => h k h2 h1
theorem OwnL.srow {w : World} {base : Nat} {v : Value} {L : List (List UInt8)} (h : OwnL w base v L) : ∃ A c, v = .slice A L.length c ∧ L.length ≤ c ∧ SRow w A L.length (fun k => mkS (L.getD k [])) := by
  obtain ⟨A, c, e, hr⟩ := h.row
  refine ⟨A, c, e, ?_, hr⟩
  rcases h.2 with ⟨rfl, h0⟩ | ⟨g, cap, cur, rfl, h1, h2, h3, _⟩
  · injection e with _ e2 e3
    omega
  · injection e with _ e2 e3
    omega
theorem cws_of (L : List (List UInt8)) : cws (fun k => mkS (L.getD k [])) L.length = L := by
  unfold cws
  refine List.ext_getElem (by simp) fun i h1 h2 => ?_
  rw [List.getElem_map, List.getElem_range]
  show lst (mkS (L.getD i [])) = _
  rw [lst_mk, List.getD_eq_getElem?_getD, List.getElem?_eq_getElem h2]
  rfl
end Go.Proofs.Ytapjodbaaejldaa
