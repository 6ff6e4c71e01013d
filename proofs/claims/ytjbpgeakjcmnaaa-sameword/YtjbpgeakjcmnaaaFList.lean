
/-
The list of all bytes in memory: front.everyByte and front.moveToFront.
-/
import Derived.Test.YtjbpgeakjcmnaaaFrMath
import Derived.Test.YtjbpgeakjcmnaaaLst
import Derived.Laws.CopyOwn
import Derived.Laws.CopyRow
import Derived.Deep.RegionLaw
import Derived.Deep.RegionHeld3
namespace Go.Proofs.Ytjbpgeakjcmnaaa
open Go.RowKit

/-- A byte as a value. -/
def bv (c : UInt8) : Value := .int .u8 (c.toNat : Int)
/-- Block g holds the bytes L, and nothing else; they may be written. -/
def FL (w : World) (g : Nat) (L : List UInt8) : Prop := w.heap[g]? = some (.cells (L.map bv).toArray 5 (0, 0))
theorem FL.cell {w : World} {g : Nat} {L : List UInt8} (h : FL w g L) {i : Nat} (hi : i < L.length) : w.cell? ⟨g, i, none⟩ = some (.int .u8 ((L.getD i 0).toNat : Int)) := by
  rw [cell_of_row _ _ _ _ _ _ h]
  simp [hi, List.getD_eq_getElem?_getD, bv]
theorem FL.frozen {w : World} {g : Nat} {L : List UInt8} (h : FL w g L) (i : Nat) : w.frozen? ⟨g, i, none⟩ = false := by
  have h : w.heap[g]? = some (.cells (L.map bv).toArray 5 (0, 0)) := h
  simp [World.frozen?, h]
theorem FL.lt {w : World} {g : Nat} {L : List UInt8} (h : FL w g L) : g < w.heap.size := by
  have h : w.heap[g]? = some (.cells (L.map bv).toArray 5 (0, 0)) := h
  obtain ⟨hlt, _⟩ := Array.getElem?_eq_some_iff.1 h
  exact hlt
theorem FL.of_block {w w' : World} {g : Nat} {L : List UInt8} (h : FL w g L) (e : w'.heap[g]? = w.heap[g]?) : FL w' g L := by
  unfold FL
  rw [e]
  exact h
theorem FL.drewN {w : World} {g : Nat} {L : List UInt8} (h : FL w g L) (d : Nat) : FL (w.drewN d) g L := h
theorem FL.keep {w w' : World} {g B : Nat} {L : List UInt8} (h : FL w g L) (hb : Below B w w') (hg : g < B) : FL w' g L := h.of_block (hb.block g hg)
theorem FL.row {w : World} {g : Nat} {L : List UInt8} (h : FL w g L) : w.rowIs g 5 L.length (fun i => bv (L.getD i 0)) := by
  refine ⟨_, h, by simp, fun i hi => ?_⟩
  simp [hi, List.getD_eq_getElem?_getD]
theorem FL.of_row {w : World} {g n : Nat} {f : Nat → Value} {L : List UInt8} (h : w.rowIs g 5 n f) (hl : L.length = n) (hf : ∀ i, i < n → f i = bv (L.getD i 0)) : FL w g L := by
  obtain ⟨c, hb, hn, hc⟩ := h
  have e : c = (L.map bv).toArray := by
    refine Array.ext (by simp [hn, hl]) fun i h1 h2 => ?_
    have h3 := hc i (by omega)
    rw [Array.getElem?_eq_getElem h1, Option.some.injEq] at h3
    rw [h3, hf i (by omega)]
    simp [show i < L.length by omega, List.getD_eq_getElem?_getD]
  rw [e] at hb
  exact hb
/-- A store into the first place. -/
theorem FL.set0 {w : World} {g : Nat} {a c : UInt8} {L : List UInt8} (h : FL w g (a :: L)) : FL (w.setCell ⟨g, 0, none⟩ (.int .u8 (c.toNat : Int))) g (c :: L) := by
  refine FL.of_row (h.row.set 0 _) rfl fun i hi => ?_
  cases i with
  | zero => rfl
  | succ i => rfl

/-- One copy into the row at block g: only that block changes. -/
theorem step_copy1 {P : Program} {w : World} {ops : Array Oper} {o : Oper} {a : Act} {K : Act → World → Prop} {Q : Exit → Act → World → Prop} {E : Prop} (hgd : o.guard = none) (d s : Operand) (dT sT : TypeId)
    (ho : o.op = .call { callee := .builtin .copy, args := #[d, s], argTypes := #[dT, sT] }) (elem : TypeId) (hu : P.underlying dT = some (.slice elem)) (hsz : (P.info? elem).map (·.size) = some 1)
    (g off dLen dCap : Nat) (ad : Addr) (sLen sCap : Nat) (hd : a.eval d = .slice (some ⟨g, off, none⟩) dLen dCap) (hs : a.eval s = .slice (some ad) sLen sCap)
    (cur : List Value) (t : TypeId) (hg : w.heap[g]? = some (.cells cur.toArray t (0, 0))) (cs : List Value) (hn : cs.length = Nat.min sLen dLen)
    (hsrc : ∀ j v, cs[j]? = some v → w.cell? (ad.add j) = some v) (hfit : off + cs.length ≤ cur.length) (h1 : ∀ v ∈ cs, v.oneCell' = true)
    (h : ∀ w', Hid (w'.heap[g]? = some (.cells (splice cur off cs).toArray t (0, 0))) → Hid (w.grownBy w' (some g)) → K (a.put o.dst (goInt cs.length)) w') :
    if Region.wanted o (yielded ops a.tmps) = true then Oper.wp P o a w K Q else E := by
  have hw : Region.wanted o (yielded ops a.tmps) = true := by simp [Region.wanted, hgd]
  rw [if_pos hw]
  have hrun := run_copy_row P w dT sT o.type elem g off dLen dCap ad sLen sCap cur.toArray t cs hu hsz hg hn hsrc (by simpa using hfit) h1
  have h2 : (w.setRow g (cur.toArray.toList.take off ++ cs ++ cur.toArray.toList.drop (off + cs.length)).toArray).heap[g]? = some (.cells (splice cur off cs).toArray t (0, 0)) := by
    rw [setRow_heap w g _ _ t _ hg]
    simp [splice]
  have h3 : w.grownBy (w.setRow g (cur.toArray.toList.take off ++ cs ++ cur.toArray.toList.drop (off + cs.length)).toArray) (some g) := ⟨rfl, rfl, rfl, by simp [World.setRow], fun k _ hk => setRow_other w g k _ (fun e => hk (by rw [e]))⟩
  unfold Oper.wp
  simp only [execOp, ho, resolve, invoke, builtin]
  simp [hd, hs]
  simp at hrun
  rw [hrun]
  simp [Result.andThen]
  simp at h2 h3
  exact h _ h2 h3

theorem Try.infoB8 : (Try.prog.info? 5).map (fun i => (i.zero, i.size, i.bytes)) = some (some (.int .u8 0), 1, 1) := by kernel_rfl
/-- What everyByte has written when it is at i. -/
def evG (i j : Nat) : Int := if j < i then (j : Int) else 0
theorem ev_set {w wr : World} {i : Nat} (h : wr.rowIs w.heap.size 5 256 (fun j => .int .u8 (evG i j))) : (wr.setCell ⟨w.heap.size, i, none⟩ (.int .u8 (i : Int))).rowIs w.heap.size 5 256 (fun j => .int .u8 (evG (i + 1) j)) := by
  refine (h.set i _).congr fun j _ => ?_
  unfold evG
  by_cases e : j = i
  · subst e; rw [if_pos rfl, if_pos (by omega)]
  · rw [if_neg e]
    by_cases h2 : j < i
    · rw [if_pos h2, if_pos (by omega)]
    · rw [if_neg h2, if_neg (by omega)]
/-- What the copy leaves. -/
theorem mv_splice {L : List UInt8} {k : Nat} (hl : L.length = 256) (hk : k < 256) : ∃ a, splice (L.map bv) 1 ((L.take k).map bv) = (a :: (L.take k ++ L.drop (k + 1))).map bv := by
  obtain ⟨a, r, rfl⟩ : ∃ a r, L = a :: r := by
    cases L with
    | nil => simp at hl
    | cons a r => exact ⟨a, r, rfl⟩
  refine ⟨a, ?_⟩
  have hk2 : ((a :: r).take k).length = k := by rw [List.length_take]; omega
  unfold splice
  rw [List.length_map, hk2, ← List.map_drop, ← List.map_take, ← List.map_append, ← List.map_append, Nat.add_comm 1 k]
  rfl
end Go.Proofs.Ytjbpgeakjcmnaaa
