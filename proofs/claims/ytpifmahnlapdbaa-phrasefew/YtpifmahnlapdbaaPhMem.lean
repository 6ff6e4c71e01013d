
/-
Rows of words of the program's own, beside other rows: appending one, and what else turned.
-/
import Derived.Test.YtpifmahnlapdbaaSRows
import Derived.Test.YtpifmahnlapdbaaSortW
import Derived.Maps.AppendAt
import Derived.Laws.OwnMore
namespace Go.Proofs.Ytpifmahnlapdbaa
open Go.RowKit

/-- 'm = append(m, x)': .. and what else turned. -/
theorem app_lst3 {ops : Array Oper} {rest : List Oper} {o : Oper} {a : Act} {Q : Exit → Act → World → Prop} {wr : World} {N : List (List UInt8)} {x : ByteArray} {v : Value} {base : Nat} (hgd : o.guard = none) (s z : Operand)
    (ho : o.op = .call { callee := .builtin .append, args := #[s, z], argTypes := #[36, 36] })
    (hs : a.eval s = v) (hown : OwnL wr base v N) (M : Nat) (hM : wr.heap.size = M) (hx : a.eval z = .slice (some ⟨M, 0, none⟩) 1 1)
    (hbase : base ≤ M) (hlen : (N.length + 1) * 16 ≤ 140737488355328)
    (h : ∀ v' w', OwnL w' base v' (N ++ [lst x]) → Below base wr w' → wr.grownBy w' v.ownBlock → (v'.ownBlock = v.ownBlock ∨ ∃ k, v'.ownBlock = some k ∧ M ≤ k) → wpList Try.prog ops Q rest (a.put o.dst v') w') :
    wpList Try.prog ops Q (o :: rest) a (wr.alloc (.cells #[.string x] 9)) := by
  subst hM
  obtain ⟨i0, hi, hz0, hz1, hz2⟩ := info_parts Try.infoStr'
  refine wpList_append_own_at _ hgd s z 36 ho base 9 i0 (.string ⟨#[]⟩) 1 16 Try.underlying36 hi hz0 hz1 hz2 rfl (by decide) v _ _ hs (World.ownsRow.alloc hown _) ⟨wr.heap.size, 0, none⟩ 1 1 [.string x] hx rfl ?_ ?_ ?_ ?_ ?_ ?_
  · intro j u hj
    match j, hj with
    | 0, hj => simp at hj; subst hj; simp [Addr.add]
  · intro u hu; simp at hu; subst hu; rfl
  · unfold maxLen; omega
  · omega
  · simp; omega
  · intro v' w' h1 h2 _ h5
    refine h v' w' ?_ ?_ ?_ ?_
    · unfold OwnL
      rw [List.map_append, List.length_append]
      have e : [lst x].map Go.Proofs.encStr = [.string x] := by
        rw [List.map_singleton, enc_lst]
      rw [e]
      exact h1
    · have hb : Below base wr (wr.alloc (.cells #[.string x] 9)) := (Below.refl _ _).alloc hbase _
      exact hb.grown h2 (by simp; omega) fun k hk => ((World.ownsRow.lt hown k hk).1)
    · have h3 := World.grownBy_alloc wr (.cells #[.string x] 9) v.ownBlock
      exact ⟨h2.os.trans h3.os, h2.tape.trans h3.tape, h2.output.trans h3.output, Nat.le_trans h3.size h2.size, fun i hi hne => (h2.block i (Nat.lt_of_lt_of_le hi h3.size) hne).trans (h3.block i hi hne)⟩
    · rcases h5 with h5 | h5
      · exact .inl h5
      · exact .inr ⟨_, h5, by simp⟩
theorem OwnL.low_ {w w' : World} {base : Nat} {v : Value} {L : List (List UInt8)} (h : OwnL w base v L) (hb : Below w.heap.size w w') : OwnL w' base v L := own_of_block h (fun k hk => hb.block k (World.ownsRow.lt h k hk).2)
theorem OwnL.block_ {w w' : World} {base : Nat} {v : Value} {L : List (List UInt8)} (h : OwnL w base v L) (hb : ∀ k, v.ownBlock = some k → w'.heap[k]? = w.heap[k]?) : OwnL w' base v L := own_of_block h hb
theorem OwnL.lt2 {w : World} {base : Nat} {v : Value} {L : List (List UInt8)} (h : OwnL w base v L) : ∀ k, v.ownBlock = some k → base ≤ k ∧ k < w.heap.size := fun k hk => World.ownsRow.lt h k hk
theorem OwnL.srow_ {w : World} {base : Nat} {v : Value} {L : List (List UInt8)} (h : OwnL w base v L) : ∃ A c, v = .slice A L.length c ∧ L.length ≤ c ∧ SRow w A L.length (fun k => mkS (L.getD k [])) := by
  obtain ⟨A, c, e, hr⟩ := h.row
  refine ⟨A, c, e, ?_, hr⟩
  rcases h.2 with ⟨rfl, h0⟩ | ⟨g, cap, cur, rfl, h1, h2, h3, _⟩
  · injection e with _ e2 e3
    omega
  · injection e with _ e2 e3
    omega
theorem mk_app (a b : List UInt8) : mkS (a ++ b) = mkS a ++ mkS b := by
  have h : lst (mkS (a ++ b)) = lst (mkS a ++ mkS b) := by
    rw [lst_mk]
    unfold lst
    rw [ByteArray.data_append, Array.toList_append]
    show _ = lst (mkS a) ++ lst (mkS b)
    rw [lst_mk, lst_mk]
  rw [← mk_lst (mkS (a ++ b)), h, mk_lst]
theorem lst_app (a b : ByteArray) : lst (a ++ b) = lst a ++ lst b := by
  unfold lst
  rw [ByteArray.data_append, Array.toList_append]
/-- The first cell that the program lays: a row of one word. -/
theorem OwnL.lit1 (w : World) (x : List UInt8) (N : Nat) (hN : w.heap.size = N) : OwnL (w.alloc (.cells #[.string (mkS x)] 9)) N (.slice (some ⟨N, 0, none⟩) 1 1) [x] := by
  subst hN
  unfold OwnL
  exact World.ownsRow_lit w #[Value.string (mkS x)] 1 (Nat.le_refl _) (by decide) rfl
end Go.Proofs.Ytpifmahnlapdbaa
