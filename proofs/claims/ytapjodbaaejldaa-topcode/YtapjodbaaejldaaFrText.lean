
/-
A text in the making: a row of bytes of the call's own; one byte more, many bytes more, and the text as a string.
-/
import Derived.Test.YtapjodbaaejldaaFList
import Derived.Laws.BytesArg
import Derived.Laws.OwnMore
namespace Go.Proofs.Ytapjodbaaejldaa
open Go.RowKit

/-- v is a slice of the call's own that holds the bytes L. -/
def OwnT (w : World) (base : Nat) (v : Value) (L : List UInt8) : Prop := w.ownsRow base 5 1 v L.length (L.map bv)
theorem OwnT.zero (w : World) (base : Nat) : OwnT w base (.slice none 0 0) [] := World.ownsRow_nil w base _ 1
theorem OwnT.drewN {w : World} {base : Nat} {v : Value} {L : List UInt8} (h : OwnT w base v L) (d : Nat) : OwnT (w.drewN d) base v L := h
theorem OwnT.lt_ {w : World} {base : Nat} {v : Value} {L : List UInt8} (h : OwnT w base v L) : ∀ k, v.ownBlock = some k → base ≤ k ∧ k < w.heap.size := fun k hk => World.ownsRow.lt h k hk
theorem OwnT.of_block {w w' : World} {base : Nat} {v : Value} {L : List UInt8} (h : OwnT w base v L) (hb : ∀ k, v.ownBlock = some k → w'.heap[k]? = w.heap[k]?) : OwnT w' base v L := by
  refine ⟨h.1, ?_⟩
  rcases h.2 with hn | ⟨g, cap, cur, rfl, h1, h2, rest⟩
  · exact .inl hn
  · exact .inr ⟨g, cap, cur, rfl, h1, (hb g rfl).trans h2, rest⟩
theorem OwnT.low {w w' : World} {base : Nat} {v : Value} {L : List UInt8} (h : OwnT w base v L) (hb : Below w.heap.size w w') : OwnT w' base v L := h.of_block fun k hk => hb.block k (h.lt_ k hk).2
theorem OwnT.alloc {w : World} {base : Nat} {v : Value} {L : List UInt8} (h : OwnT w base v L) (o : Obj) : OwnT (w.alloc o) base v L := World.ownsRow.alloc h o
theorem OwnT.shape {w : World} {base : Nat} {v : Value} {L : List UInt8} (h : OwnT w base v L) : ∃ A c, v = .slice A L.length c := by
  rcases h.2 with ⟨rfl, h0⟩ | ⟨g, cap, cur, rfl, h1⟩
  · exact ⟨none, 0, by rw [h0]⟩
  · exact ⟨_, cap, rfl⟩
/-- Such a text as a string. -/
theorem OwnT.conv {w : World} {base : Nat} {v : Value} {L : List UInt8} (h : OwnT w base v L) : (convert 74 9 v).run Try.prog w = .ok (.string (mkS L)) w := by
  have hcell := fun g cap (e : v = .slice (some ⟨g, 0, none⟩) L.length cap) (k : Nat) (hk : k < L.length) => World.ownsRow.cellAt (e ▸ h) k (by omega)
  rcases h.2 with ⟨rfl, h0⟩ | ⟨g, cap, cur, rfl, h1⟩
  · have hl : L = [] := List.length_eq_zero_iff.1 h0
    subst hl
    exact run_convert_bytes_nil (P := Try.prog) w 74 5 Try.underlying74 Try.underlying5 0 0 9 Try.underlying9
  · have hcv := run_convert_bytes_arg (P := Try.prog) w 74 5 Try.underlying74 Try.underlying5 g 0 L.length cap (L.map fun c => (c.toNat : Int)) (by simp) (fun i hi => by
      rw [Nat.zero_add, hcell g cap rfl i hi, List.getElem?_map, List.getElem?_eq_getElem hi, List.getD_eq_getElem?_getD, List.getElem?_map, List.getElem?_eq_getElem hi]
      rfl) 9 Try.underlying9
    rw [nums_mk] at hcv
    exact hcv
/-- 'text = append(text, many...)'. -/
theorem app_many {ops : Array Oper} {rest : List Oper} {o : Oper} {a : Act} {Q : Exit → Act → World → Prop} {w : World} {N M : List UInt8} {v : Value} {base : Nat} (hgd : o.guard = none) (s z : Operand)
    (ho : o.op = .call { callee := .builtin .append, args := #[s, z], argTypes := #[74, 74] })
    (hs : a.eval s = v) (hown : OwnT w base v N) (ad : Addr) (m c : Nat) (hx : a.eval z = .slice (some ad) m c) (hm : M.length = m) (hcell : ∀ j, j < m → w.cell? (ad.add j) = some (bv (M.getD j 0)))
    (hbase : base ≤ w.heap.size) (hlen : N.length + M.length < 1000000)
    (h : ∀ v' w', OwnT w' base v' (N ++ M) → w.grownBy w' v.ownBlock → wpList Try.prog ops Q rest (a.put o.dst v') w') :
    wpList Try.prog ops Q (o :: rest) a w := by
  obtain ⟨i0, hi, hz0, hz1, hz2⟩ := info_parts Try.infoB8
  refine wpList_append_own _ hgd s z 74 ho base 5 i0 (.int .u8 0) 1 1 Try.underlying74 hi hz0 hz1 hz2 rfl (by decide) v _ _ hs hown ad m c (M.map bv) hx (by simp [hm]) ?_ ?_ ?_ ?_ ?_ ?_
  · intro j u hj
    rw [List.getElem?_map] at hj
    by_cases hjm : j < m
    · rw [hcell j hjm, ← hj, List.getElem?_eq_getElem (by omega), List.getD_eq_getElem?_getD, List.getElem?_eq_getElem (by omega)]
      rfl
    · rw [List.getElem?_eq_none (by omega)] at hj
      cases hj
  · intro u hu
    obtain ⟨x, _, rfl⟩ := List.mem_map.1 hu
    rfl
  · unfold maxLen; omega
  · omega
  · exact hbase
  · intro v' w' h1 h2 _
    refine h v' w' ?_ h2
    unfold OwnT
    rw [List.map_append, List.length_append, hm]
    exact h1
/-- 'text = append(text, c)'. -/
theorem app_one {ops : Array Oper} {rest : List Oper} {o : Oper} {a : Act} {Q : Exit → Act → World → Prop} {wr : World} {N : List UInt8} {x : UInt8} {v : Value} {base : Nat} (hgd : o.guard = none) (s z : Operand)
    (ho : o.op = .call { callee := .builtin .append, args := #[s, z], argTypes := #[74, 74] })
    (hs : a.eval s = v) (hown : OwnT wr base v N) (M : Nat) (hM : wr.heap.size = M) (hx : a.eval z = .slice (some ⟨M, 0, none⟩) 1 1)
    (hbase : base ≤ M) (hlen : N.length < 1000000 - 1)
    (h : ∀ v' w', OwnT w' base v' (N ++ [x]) → Below base wr w' → wr.grownBy w' v.ownBlock → wpList Try.prog ops Q rest (a.put o.dst v') w') :
    wpList Try.prog ops Q (o :: rest) a (wr.alloc (.cells #[.int .u8 (x.toNat : Int)] 5)) := by
  subst hM
  refine app_many (M := [x]) hgd s z ho hs (hown.alloc _) ⟨wr.heap.size, 0, none⟩ 1 1 hx rfl (fun j hj => ?_) (by simp; omega) (by simp; omega) fun v' w' h1 h2 => ?_
  · obtain rfl : j = 0 := by omega
    simp [Addr.add, bv]
  · have h3 := World.grownBy_alloc wr (.cells #[.int .u8 (x.toNat : Int)] 5) v.ownBlock
    have h4 : wr.grownBy w' v.ownBlock := ⟨h2.os.trans h3.os, h2.tape.trans h3.tape, h2.output.trans h3.output, Nat.le_trans h3.size h2.size, fun i hi hne => (h2.block i (Nat.lt_of_lt_of_le hi h3.size) hne).trans (h3.block i hi hne)⟩
    exact h v' w' h1 ((Below.refl base wr).grown h4 hbase fun k hk => (hown.lt_ k hk).1) h4
end Go.Proofs.Ytapjodbaaejldaa
