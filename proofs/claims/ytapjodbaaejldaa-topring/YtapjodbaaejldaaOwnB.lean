
/-
Rows of bytes of the program's own: an append of one byte.
-/
import Derived.Test.YtapjodbaaejldaaSRows
namespace Go.Proofs.Ytapjodbaaejldaa
open Go.RowKit

/-- v is a slice of the call's own that holds the bytes L (as numbers). -/
def OwnB (w : World) (base : Nat) (v : Value) (L : List Int) : Prop := w.ownsRow base 5 1 v L.length (L.map (Value.int .u8))
theorem OwnB.zero (w : World) (base : Nat) : OwnB w base (.slice none 0 0) [] := World.ownsRow_nil w base _ 1
theorem OwnB.drewN {w : World} {base : Nat} {v : Value} {L : List Int} (h : OwnB w base v L) (d : Nat) : OwnB (w.drewN d) base v L := h
theorem OwnB.below {w w' : World} {base : Nat} {v : Value} {L : List Int} (h : OwnB w base v L) (hb : Below w.heap.size w w') : OwnB w' base v L := own_of_block h (fun k hk => hb.block k (World.ownsRow.lt h k hk).2)
theorem OwnB.fresh (w : World) (base : Nat) (hb : base ≤ w.heap.size) (N : Nat) (hN : w.heap.size = N) : OwnB (w.alloc (.cells #[] 5)) base (.slice (some ⟨N, 0, none⟩) 0 0) [] := by
  subst hN
  refine ⟨rfl, .inr ⟨w.heap.size, 0, #[], rfl, hb, ?_, by simp, by unfold maxLen; omega, rfl, rfl⟩⟩
  exact heap_alloc_new w _
theorem Try.infoU8 : (Try.prog.info? 5).map (fun i => (i.zero, i.size, i.bytes)) = some (some (.int .u8 0), 1, 1) := by kernel_rfl
theorem app_byte {ops : Array Oper} {rest : List Oper} {o : Oper} {a : Act} {Q : Exit → Act → World → Prop} {wr : World} {N : List Int} {x : Int} {v : Value} {base : Nat} (hgd : o.guard = none) (s z : Operand)
    (ho : o.op = .call { callee := .builtin .append, args := #[s, z], argTypes := #[74, 74] })
    (hs : a.eval s = v) (hown : OwnB wr base v N) (M : Nat) (hM : wr.heap.size = M) (hx : a.eval z = .slice (some ⟨M, 0, none⟩) 1 1)
    (hbase : base ≤ M) (hlen : N.length < 1000000)
    (h : ∀ v' w', OwnB w' base v' (N ++ [x]) → Below base wr w' → wr.grownBy w' v.ownBlock → wpList Try.prog ops Q rest (a.put o.dst v') w') :
    wpList Try.prog ops Q (o :: rest) a (wr.alloc (.cells #[.int .u8 x] 5)) := by
  subst hM
  obtain ⟨i0, hi, hz0, hz1, hz2⟩ := info_parts Try.infoU8
  refine wpList_append_own _ hgd s z 74 ho base 5 i0 (.int .u8 0) 1 1 Try.underlying74 hi hz0 hz1 hz2 rfl (by decide) v _ _ hs (World.ownsRow.alloc hown _) ⟨wr.heap.size, 0, none⟩ 1 1 [.int .u8 x] hx rfl ?_ ?_ ?_ ?_ ?_ ?_
  · intro j u hj
    match j, hj with
    | 0, hj => simp at hj; subst hj; simp [Addr.add]
  · intro u hu; simp at hu; subst hu; rfl
  · unfold maxLen; omega
  · omega
  · simp; omega
  · intro v' w' h1 h2 _
    have hb : Below wr.heap.size wr (wr.alloc (.cells #[.int .u8 x] 5)) := (Below.refl _ _).alloc (Nat.le_refl _) _
    refine h v' w' ?_ ?_ ?_
    · unfold OwnB
      rw [List.map_append, List.length_append]
      exact h1
    · have hb : Below base wr (wr.alloc (.cells #[.int .u8 x] 5)) := (Below.refl _ _).alloc hbase _
      exact hb.grown h2 (by simp; omega) fun k hk => ((World.ownsRow.lt hown k hk).1)
    · exact ⟨h2.os.trans hb.os, h2.tape.trans hb.tape, h2.output.trans hb.output, Nat.le_trans hb.size h2.size, fun k hk hne => (h2.block k (Nat.lt_of_lt_of_le hk hb.size) hne).trans (hb.block k hk)⟩
theorem OwnB.cells {w : World} {base : Nat} {v : Value} {N : List Int} (h : OwnB w base v N) : ∃ A c, v = .slice A N.length c ∧ (0 < N.length → ∃ b, A = some ⟨b, 0, none⟩ ∧ b < w.heap.size ∧ base ≤ b ∧ ∀ i, i < N.length → w.cell? ⟨b, 0 + i, none⟩ = some (.int .u8 (N.getD i 0))) := by
  have hcell := fun g cap (e : v = .slice (some ⟨g, 0, none⟩) N.length cap) (k : Nat) (hk : k < N.length) => World.ownsRow.cellAt (e ▸ h) k (by omega)
  have hlt := World.ownsRow.lt h
  rcases h.2 with ⟨rfl, h0⟩ | ⟨g, cap, cur, rfl, h1, h2, h3, h4, h5, h6⟩
  · exact ⟨none, 0, by rw [h0], fun hk => by omega⟩
  · refine ⟨some ⟨g, 0, none⟩, cap, rfl, fun _ => ⟨g, rfl, (hlt g rfl).2, h1, fun k hk => ?_⟩⟩
    rw [Nat.zero_add, hcell g cap rfl k hk]
    simp only [List.getElem?_map]
    rw [List.getElem?_eq_getElem hk, getD_lt hk]
    rfl
end Go.Proofs.Ytapjodbaaejldaa
