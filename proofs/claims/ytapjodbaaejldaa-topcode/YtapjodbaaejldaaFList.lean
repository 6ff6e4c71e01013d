
/-
The list of all bytes in memory: front.everyByte and front.moveToFront.
-/
import Derived.Test.YtapjodbaaejldaaMathAll
import Derived.Test.YtapjodbaaejldaaLst
import Derived.Laws.CopyOwn
import Derived.Laws.CopyRow
import Derived.Deep.RegionLaw
import Derived.Deep.RegionHeld3
namespace Go.Proofs.Ytapjodbaaejldaa
open Go.RowKit

/-- A byte as a value. -/
def bv (c : UInt8) : Value := .int .u8 (c.toNat : Int)
/-- Block g holds the bytes L, and nothing else; they may be written. -/
def FL (w : World) (g : Nat) (L : List UInt8) : Prop := w.heap[g]? = some (.cells (L.map bv).toArray 5 (0, 0))
theorem FL.cell {w : World} {g : Nat} {L : List UInt8} (h : FL w g L) {i : Nat} (hi : i < L.length) : w.cell? ⟨g, i, none⟩ = some (.int .u8 ((L.getD i 0).toNat : Int)) := by
  rw [cell_of_row _ _ _ _ _ _ h]
  simp [hi, List.getD_eq_getElem?_getD, bv]
theorem FL.frozen {w : World} {g : Nat} {L : List UInt8} (h : FL w g L) (i : Nat) : w.frozen? ⟨g, i, none⟩ = false := by
  have h : w.heap[g]? = some (.cells (L.map bv).toArray 5 (0, 0)) := h
  simp [World.frozen?, h]
theorem FL.lt {w : World} {g : Nat} {L : List UInt8} (h : FL w g L) : g < w.heap.size := by
  have h : w.heap[g]? = some (.cells (L.map bv).toArray 5 (0, 0)) := h
  obtain ⟨hlt, _⟩ := Array.getElem?_eq_some_iff.1 h
  exact hlt
theorem FL.of_block {w w' : World} {g : Nat} {L : List UInt8} (h : FL w g L) (e : w'.heap[g]? = w.heap[g]?) : FL w' g L := by
  unfold FL
  rw [e]
  exact h
theorem FL.drewN {w : World} {g : Nat} {L : List UInt8} (h : FL w g L) (d : Nat) : FL (w.drewN d) g L := h
theorem FL.keep {w w' : World} {g B : Nat} {L : List UInt8} (h : FL w g L) (hb : Below B w w') (hg : g < B) : FL w' g L := h.of_block (hb.block g hg)
theorem FL.row {w : World} {g : Nat} {L : List UInt8} (h : FL w g L) : w.rowIs g 5 L.length (fun i => bv (L.getD i 0)) := by
  refine ⟨_, h, by simp, fun i hi => ?_⟩
  simp [hi, List.getD_eq_getElem?_getD]
theorem FL.of_row {w : World} {g n : Nat} {f : Nat → Value} {L : List UInt8} (h : w.rowIs g 5 n f) (hl : L.length = n) (hf : ∀ i, i < n → f i = bv (L.getD i 0)) : FL w g L := by
  obtain ⟨c, hb, hn, hc⟩ := h
  have e : c = (L.map bv).toArray := by
    refine Array.ext (by simp [hn, hl]) fun i h1 h2 => ?_
    have h3 := hc i (by omega)
    rw [Array.getElem?_eq_getElem h1, Option.some.injEq] at h3
    rw [h3, hf i (by omega)]
    simp [show i < L.length by omega, List.getD_eq_getElem?_getD]
  rw [e] at hb
  exact hb
/-- A store into the first place. -/
theorem FL.set0 {w : World} {g : Nat} {a c : UInt8} {L : List UInt8} (h : FL w g (a :: L)) : FL (w.setCell ⟨g, 0, none⟩ (.int .u8 (c.toNat : Int))) g (c :: L) := by
  refine FL.of_row (h.row.set 0 _) rfl fun i hi => ?_
  cases i with
  | zero => rfl
  | succ i => rfl

/-- One copy into the row at block g: only that block changes. -/
theorem step_copy1 {P : Program} {w : World} {ops : Array Oper} {o : Oper} {a : Act} {K : Act → World → Prop} {Q : Exit → Act → World → Prop} {E : Prop} (hgd : o.guard = none) (d s : Operand) (dT sT : TypeId)
    (ho : o.op = .call { callee := .builtin .copy, args := #[d, s], argTypes := #[dT, sT] }) (elem : TypeId) (hu : P.underlying dT = some (.slice elem)) (hsz : (P.info? elem).map (·.size) = some 1)
    (g off dLen dCap : Nat) (ad : Addr) (sLen sCap : Nat) (hd : a.eval d = .slice (some ⟨g, off, none⟩) dLen dCap) (hs : a.eval s = .slice (some ad) sLen sCap)
    (cur : List Value) (t : TypeId) (hg : w.heap[g]? = some (.cells cur.toArray t (0, 0))) (cs : List Value) (hn : cs.length = Nat.min sLen dLen)
    (hsrc : ∀ j v, cs[j]? = some v → w.cell? (ad.add j) = some v) (hfit : off + cs.length ≤ cur.length) (h1 : ∀ v ∈ cs, v.oneCell' = true)
    (h : ∀ w', Hid (w'.heap[g]? = some (.cells (splice cur off cs).toArray t (0, 0))) → Hid (w.grownBy w' (some g)) → K (a.put o.dst (goInt cs.length)) w') :
    if Region.wanted o (yielded ops a.tmps) = true then Oper.wp P o a w K Q else E := by
  have hw : Region.wanted o (yielded ops a.tmps) = true := by simp [Region.wanted, hgd]
  rw [if_pos hw]
  have hrun := run_copy_row P w dT sT o.type elem g off dLen dCap ad sLen sCap cur.toArray t cs hu hsz hg hn hsrc (by simpa using hfit) h1
  have h2 : (w.setRow g (cur.toArray.toList.take off ++ cs ++ cur.toArray.toList.drop (off + cs.length)).toArray).heap[g]? = some (.cells (splice cur off cs).toArray t (0, 0)) := by
    rw [setRow_heap w g _ _ t _ hg]
    simp [splice]
  have h3 : w.grownBy (w.setRow g (cur.toArray.toList.take off ++ cs ++ cur.toArray.toList.drop (off + cs.length)).toArray) (some g) := ⟨rfl, rfl, rfl, by simp [World.setRow], fun k _ hk => setRow_other w g k _ (fun e => hk (by rw [e]))⟩
  unfold Oper.wp
  simp only [execOp, ho, resolve, invoke, builtin]
  simp [hd, hs]
  simp at hrun
  rw [hrun]
  simp [Result.andThen]
  simp at h2 h3
  exact h _ h2 h3

theorem Try.infoB8 : (Try.prog.info? 5).map (fun i => (i.zero, i.size, i.bytes)) = some (some (.int .u8 0), 1, 1) := by kernel_rfl
/-- What everyByte has written when it is at i. -/
def evG (i j : Nat) : Int := if j < i then (j : Int) else 0
theorem ev_set {w wr : World} {i : Nat} (h : wr.rowIs w.heap.size 5 256 (fun j => .int .u8 (evG i j))) : (wr.setCell ⟨w.heap.size, i, none⟩ (.int .u8 (i : Int))).rowIs w.heap.size 5 256 (fun j => .int .u8 (evG (i + 1) j)) := by
  refine (h.set i _).congr fun j _ => ?_
  unfold evG
  by_cases e : j = i
  · subst e; rw [if_pos rfl, if_pos (by omega)]
  · rw [if_neg e]
    by_cases h2 : j < i
    · rw [if_pos h2, if_pos (by omega)]
    · rw [if_neg h2, if_neg (by omega)]
theorem every_any (w : World) : Calls Try.prog 71 #[] w fun e w' => e = .returned (.slice (some ⟨w.heap.size, 0, none⟩) 256 256) ∧ FL w' w.heap.size Fm.every ∧ Below w.heap.size w w' := by
  have hmk : (Instr.makeSlice 74 (.int .i64 256) (.int .i64 256)).run Try.prog w = .ok (.slice (some ⟨w.heap.size, 0, none⟩) 256 256) (w.alloc (.cells (madeCells #[.int .u8 0] 256) 5)) := run_make_row' (P := Try.prog) 74 5 (.int .u8 0) 1 Try.underlying74 Try.infoB8 rfl .i64 .i64 256 (by omega) (by omega) w
  have hmade := World.rowIs_made w (.int .u8 0) 256 5
  have hb0 := bl_new w (.cells (madeCells #[.int .u8 0] 256) 5)
  generalize w.alloc (.cells (madeCells #[.int .u8 0] 256) 5) = w0 at hmk hmade hb0
  have R0 : Hid (w0.rowIs w.heap.size 5 256 (fun j => .int .u8 (evG 0 j))) := hmade.congr fun j _ => by
    unfold evG
    rw [if_neg (by omega)]
  have HB0 := hid hb0
  clear hmade hb0
  go_enter Try.func71, Try.ntmps71
  go_wp2
  clear hmk
  go_loopw [6] (fun y wr => ∃ i : Nat, i ≤ 256 ∧ y = .int .i64 (i : Int) ∧ Hid (wr.rowIs w.heap.size 5 256 (fun j => .int .u8 (evG i j))) ∧ Hid (Below w.heap.size w wr)) (fun y _ => 256 - (intOf y).toNat)
  case atStart => exact ⟨0, by omega, rfl, R0, HB0⟩
  case round =>
    clear R0 HB0
    obtain ⟨i, hi, rfl, HR, HB⟩ := hrel
    by_cases hlt : i < 256
    · have hlt' : (i : Int) < 256 := by omega
      have hwr : IntKind.u8.wrap (i : Int) = (i : Int) := IntWalk.u8_in _ (by omega)
      have hroom := HR.out.frozen i
      have hold := HR.out.cell hlt
      have HR2 := hid (ev_set HR.out)
      have HB2 : Hid (Below w.heap.size w (wr.setCell ⟨w.heap.size, i, none⟩ (.int .u8 (i : Int)))) := HB.out.setCell (Nat.le_refl _) _
      clear HR HB
      go_wp2
      go_roundw
      case measure => simp [intOf]; omega
      case rel => exact ⟨i + 1, by omega, by go_num, HR2, HB2⟩
    · have hd : decide ((i : Int) < 256) = false := decide_eq_false (by omega)
      obtain rfl : i = 256 := by omega
      go_wp2
      go_ret
      refine ⟨rfl, FL.of_row HR.out Fm.every_len fun j hj => ?_, HB.out⟩
      rw [Fm.every_at hj]
      unfold evG bv
      rw [if_pos hj, UInt8.toNat_ofNat', Nat.mod_eq_of_lt (by omega)]
/-- What the copy leaves. -/
theorem mv_splice {L : List UInt8} {k : Nat} (hl : L.length = 256) (hk : k < 256) : ∃ a, splice (L.map bv) 1 ((L.take k).map bv) = (a :: (L.take k ++ L.drop (k + 1))).map bv := by
  obtain ⟨a, r, rfl⟩ : ∃ a r, L = a :: r := by
    cases L with
    | nil => simp at hl
    | cons a r => exact ⟨a, r, rfl⟩
  refine ⟨a, ?_⟩
  have hk2 : ((a :: r).take k).length = k := by rw [List.length_take]; omega
  unfold splice
  rw [List.length_map, hk2, ← List.map_drop, ← List.map_take, ← List.map_append, ← List.map_append, Nat.add_comm 1 k]
  rfl
theorem move_any {L : List UInt8} {g k : Nat} (w : World) (h : FL w g L) (hl : L.length = 256) (hk : k < 256) :
    Calls Try.prog 73 #[.slice (some ⟨g, 0, none⟩) 256 256, .int .i64 (k : Int)] w fun e w' => e = .returned (.tuple #[]) ∧ FL w' g (Fm.mv L k) ∧ w.grownBy w' (some g) := by
  have hk' : (k : Int) < 256 := by omega
  have hk2 : (k : Int) ≤ 256 := by omega
  have hcell := h.cell (i := k) (by omega)
  have HH := hid h
  obtain ⟨a, ha⟩ := mv_splice hl hk
  have HA := hid ha
  obtain ⟨c, hc⟩ : ∃ c, c = L.getD k 0 := ⟨_, rfl⟩
  rw [← hc] at hcell
  have HC := hid hc
  have HN : Hid (((L.take k).map bv).length = k) := by unfold Hid; rw [List.length_map, List.length_take]; omega
  have HS : Hid (∀ j v, ((L.take k).map bv)[j]? = some v → w.cell? (Addr.add ⟨g, 0, none⟩ j) = some v) := by
    intro j v hj
    rw [List.getElem?_map, List.getElem?_take] at hj
    split at hj
    · rename_i hjk
      rw [Addr.add_lit, Nat.zero_add, h.cell (i := j) (by omega)]
      rw [List.getElem?_eq_getElem (show j < L.length by omega)] at hj
      simp only [Option.map_some, Option.some.injEq] at hj
      rw [← hj, List.getD_eq_getElem?_getD, List.getElem?_eq_getElem (show j < L.length by omega)]
      rfl
    · cases hj
  have H1 : Hid (∀ v ∈ (L.take k).map bv, v.oneCell' = true) := by
    intro v hv
    obtain ⟨u, _, rfl⟩ := List.mem_map.1 hv
    rfl
  have HF : Hid (1 + ((L.take k).map bv).length ≤ (L.map bv).length) := by unfold Hid; rw [HN.out, List.length_map]; omega
  have HM : Hid (((L.take k).map bv).length = Nat.min k 255) := by unfold Hid; rw [HN.out]; exact (Nat.min_eq_left (by omega)).symm
  have HZ : Hid ((Try.prog.info? 5).map (·.size) = some 1) := by unfold Hid; kernel_rfl
  generalize (L.take k).map bv = cs at *
  clear hc h ha
  go_enter Try.func73, Try.ntmps73
  go_wp2
  go_region_law (refine step_copy1 rfl _ _ 74 74 rfl 5 Try.underlying74 HZ.out g 1 255 255 ⟨g, 0, none⟩ k 256 (by simp [Act.eval, Act.put]) (by simp [Act.eval, Act.put]) (L.map bv) 5 HH.out cs HM.out HS.out HF.out H1.out ?_; intro w1 G1 G2)
  have HF1 : Hid (FL w1 g (a :: (L.take k ++ L.drop (k + 1)))) := by unfold Hid FL; rw [← HA.out]; exact G1.out
  have hfz := HF1.out.frozen 0
  have hold := HF1.out.cell (i := 0) (by simp)
  go_wp2
  go_end0
  refine ⟨rfl, ?_, ?_⟩
  · have := HF1.out.set0 (c := c)
    rw [HC.out] at this
    rw [HC.out]
    exact this
  · have h2 := G2.out
    exact ⟨h2.os, h2.tape, h2.output, by simpa using h2.size, fun b hb hne => (Below.heap_setCell w1 ⟨g, 0, none⟩ _ b (fun e => hne (congrArg some e))).trans (h2.block b hb hne)⟩
end Go.Proofs.Ytapjodbaaejldaa
