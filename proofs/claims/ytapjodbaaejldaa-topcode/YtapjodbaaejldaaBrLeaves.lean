
/-
The contract of tree.leaves.
-/
import Derived.Test.YtapjodbaaejldaaBrJoin
import Derived.Laws.MakeOwn
namespace Go.Proofs.Ytapjodbaaejldaa
open Go.RowKit

/-- What a branch is to the forest. -/
def nd (d : Br) : Hm.Nd := (d.1, d.2.2)
/-- Each branch's slice reads its leaves; it lies from base on, and not where the branches lie. -/
def LvOk (base bb : Nat) (w : World) (D : List Br) : Prop := ∀ d ∈ D, Leaf w d.2.1 d.2.2 ∧ ∀ k, d.2.1.ownBlock = some k → base ≤ k ∧ k ≠ bb
theorem LvOk.below {base bb : Nat} {w w' : World} {D : List Br} (h : LvOk base bb w D) (hb : Below w.heap.size w w') : LvOk base bb w' D := fun d hd => ⟨(h d hd).1.below hb, (h d hd).2⟩
theorem LvOk.grown {base bb : Nat} {w w' : World} {D : List Br} (h : LvOk base bb w D) (hg : w.grownBy w' (some bb)) : LvOk base bb w' D :=
  fun d hd => ⟨(h d hd).1.grown hg fun e => ((h d hd).2 bb e).2 rfl, (h d hd).2⟩
theorem LvOk.ok {base bb : Nat} {w : World} {D : List Br} (h : LvOk base bb w D) (hw : ∀ d ∈ D, d.1 ≤ 1000000) : ∀ d ∈ D, BrOk d := fun d hd => by
  obtain ⟨b, o, c, e, _⟩ := (h d hd).1
  exact ⟨⟨_, _, _, e⟩, hw d hd⟩
def LeavesPost (wt : Nat → Nat) (n : Nat) (w : World) (e : Ending) (w' : World) : Prop :=
  ∃ D, e = .returned (.slice (some ⟨w.heap.size, 0, none⟩) n n) ∧ D.map nd = Hm.hstart wt n ∧ QB w' w.heap.size 0 n D ∧ LvOk w.heap.size w.heap.size w' D ∧ Below w.heap.size w w'
theorem hstart_snoc (wt : Nat → Nat) (i : Nat) : Hm.hstart wt (i + 1) = Hm.hstart wt i ++ [(wt i, [i])] := by unfold Hm.hstart; rw [List.range_succ, List.map_append]; rfl
/-- One branch more. -/
def LeavesAt (wt : Nat → Nat) (n i : Nat) (w wr : World) : Prop :=
  ∃ D, D.map nd = Hm.hstart wt i ∧ QB wr w.heap.size 0 n D ∧ LvOk w.heap.size w.heap.size wr D ∧ Below w.heap.size w wr
theorem LeavesAt.room {wt : Nat → Nat} {n i : Nat} {w wr : World} (h : LeavesAt wt n i w wr) (hi : i < n) (o : Obj) :
    (∃ u, (wr.alloc o).cell? ⟨w.heap.size, i * 2, none⟩ = some u) ∧ (∃ u, (wr.alloc o).cell? ⟨w.heap.size, i * 2 + 1, none⟩ = some u) ∧ (wr.alloc o).frozen? ⟨w.heap.size, i * 2, none⟩ = false ∧ (wr.alloc o).frozen? ⟨w.heap.size, i * 2 + 1, none⟩ = false := by
  obtain ⟨D, _, hq, _, _⟩ := h
  have hq := hq.below (bl_new wr o)
  obtain ⟨a1, a2⟩ := hq.room (i * 2) (by omega)
  obtain ⟨b1, b2⟩ := hq.room (i * 2 + 1) (by omega)
  rw [Nat.zero_add] at a1 a2 b1 b2
  exact ⟨Option.isSome_iff_exists.1 a1, Option.isSome_iff_exists.1 b1, a2, b2⟩
theorem LeavesAt.next {wt : Nat → Nat} {n i N x : Nat} {w wr : World} (h : LeavesAt wt n i w wr) (hi : i < n) (hN : wr.heap.size = N) (hx : wt i = x) :
    LeavesAt wt n (i + 1) w (((wr.alloc (.cells #[.int .i64 (i : Int)] 3)).setCell ⟨w.heap.size, i * 2, none⟩ (.int .i64 (x : Int))).setCell ⟨w.heap.size, i * 2 + 1, none⟩ (.slice (some ⟨N, 0, none⟩) 1 1)) := by
  subst hN; subst hx
  obtain ⟨D, hD, hq, hl, hb⟩ := h
  have hlen : D.length = i := by
    have := congrArg List.length hD
    rwa [List.length_map, Hm.hstart_len] at this
  have hb1 := bl_new wr (.cells #[.int .i64 (i : Int)] 3)
  have hq1 := (hq.below hb1).put i (wt i, .slice (some ⟨wr.heap.size, 0, none⟩) 1 1, [i]) hi (D' := D ++ [(wt i, .slice (some ⟨wr.heap.size, 0, none⟩) 1 1, [i])]) (by simp; omega) fun j => by
    by_cases e : j = i
    · rw [if_pos e, e, ← hlen, List.getElem?_append_right (Nat.le_refl _), Nat.sub_self]; rfl
    · rw [if_neg e]
      rcases Nat.lt_or_ge j D.length with h1 | h1
      · rw [List.getElem?_append_left h1]
      · rw [List.getElem?_append_right h1, List.getElem?_eq_none (l := D) h1, List.getElem?_eq_none]
        show 1 ≤ _
        omega
  rw [Nat.zero_add] at hq1
  have hlt := hq.lt
  have hle := hb.size
  have hg : (wr.alloc (.cells #[.int .i64 (i : Int)] 3)).grownBy (((wr.alloc (.cells #[.int .i64 (i : Int)] 3)).setCell ⟨w.heap.size, i * 2, none⟩ (.int .i64 ((wt i : Nat) : Int))).setCell ⟨w.heap.size, i * 2 + 1, none⟩ (.slice (some ⟨wr.heap.size, 0, none⟩) 1 1)) (some w.heap.size) := gset (gset (World.grownBy.refl _ _))
  refine ⟨_, ?_, hq1, ?_, (hb.trans (hb1.mono hle)).grown hg (Nat.le_trans hle hb1.size) fun k hk => ?_⟩
  · rw [List.map_append, hD, hstart_snoc]; rfl
  · intro d hd
    rcases List.mem_append.1 hd with hd | hd
    · exact (hl.below hb1).grown hg d hd
    · obtain rfl := List.mem_singleton.1 hd
      have h0 : LvOk w.heap.size w.heap.size (wr.alloc (.cells #[.int .i64 (i : Int)] 3)) [(wt i, .slice (some ⟨wr.heap.size, 0, none⟩) 1 1, [i])] := fun d hd => by
        obtain rfl := List.mem_singleton.1 hd
        refine ⟨⟨wr.heap.size, 0, 1, rfl, Nat.le_refl _, by simp, fun j x hj => ?_⟩, fun k hk => ?_⟩
        · rw [cell_of_row _ _ _ _ _ _ (heap_alloc_new wr _)]
          match j, hj with
          | 0, hj => injection hj with hj; rw [← hj]; rfl
        · injection hk with hk
          have hk : wr.heap.size = k := hk
          omega
      exact h0.grown hg _ (List.mem_singleton.2 rfl)
  · injection hk with hk
    omega
theorem LeavesAt.zero (wt : Nat → Nat) (n : Nat) (w : World) (z : Value) : LeavesAt wt n 0 w (w.alloc (.cells (madeCells z.cells (n * 2)) 160)) := by
  have hsz : (madeCells z.cells (n * 2)).size = n * 2 := size_madeCells _ _
  have hr := World.rowIs_alloc w (madeCells z.cells (n * 2)) 160 (fun j => (madeCells z.cells (n * 2))[j]?.getD default) fun i hi => by rw [Array.getElem?_eq_getElem hi]; rfl
  rw [hsz] at hr
  refine ⟨[], rfl, ⟨hr.lt, Nat.zero_le _, fun k d hd => by simp at hd, fun j hj => ?_⟩, fun d hd => by simp at hd, bl_new w _⟩
  rw [Nat.zero_add]
  exact ⟨by rw [hr.cell hj]; rfl, hr.frozen j⟩
theorem Try.infoBr : (Try.prog.info? 160).map (fun i => (i.zero, i.size, i.bytes)) = some (some (.agg #[.int .i64 0, .slice none 0 0]), 2, 32) := by kernel_rfl
set_option maxHeartbeats 1000000 in
theorem leaves_any {A : Option Addr} {n c : Nat} {g : Nat → Int} {wt : Nat → Nat} (w : World) (h : IRow w A n g) (hg : ∀ k, k < n → g k = ((wt k : Nat) : Int)) (hn : n ≤ 12) :
    Calls Try.prog 135 #[.slice A n c] w (LeavesPost wt n w) := by
  obtain ⟨i0, hi, hz0, hz1, hz2⟩ := info_parts Try.infoBr
  have hmk := run_make (P := Try.prog) w 156 160 i0 (.agg #[.int .i64 0, .slice none 0 0]) Try.underlying156 hi hz0 .i64 .i64 n n (by omega) (Int.le_refl _) (by rw [hz2]; omega) (by omega)
  rw [hz1, Int.toNat_natCast] at hmk
  have H0 := hid (LeavesAt.zero wt n w (.agg #[.int .i64 0, .slice none 0 0]))
  have H := hid h
  have HG := hid hg
  clear h hg
  generalize w.alloc (.cells (madeCells (Value.agg #[.int .i64 0, .slice none 0 0]).cells (n * 2)) 160) = w0 at hmk H0
  go_enter Try.func135, Try.ntmps135
  go_wp2
  go_loopw [11] (fun y wr => ∃ i : Nat, i ≤ n ∧ y = .int .i64 (i : Int) ∧ Hid (LeavesAt wt n i w wr)) (fun y _ => n - (intOf y).toNat)
  case atStart => exact ⟨0, by omega, rfl, H0⟩
  case round =>
    obtain ⟨i, hi, rfl, HI⟩ := hrel
    by_cases hlt : i < n
    · have hlt' : (i : Int) < (n : Int) := by omega
      have HB := hid (show Below w.heap.size w wr from HI.out.choose_spec.2.2.2)
      obtain ⟨b, o, rfl, _, hc⟩ := (H.out.keep HB.out) i hlt
      rw [HG.out i hlt] at hc
      obtain ⟨⟨u1, r1⟩, ⟨u2, r2⟩, f1, f2⟩ := HI.out.room hlt (.cells #[.int .i64 (i : Int)] 3)
      obtain ⟨x, hx⟩ : ∃ x, x = wt i := ⟨_, rfl⟩
      have HN := hid (HI.out.next (x := x) hlt rfl hx.symm)
      rw [← hx] at hc
      clear hx HI H0 HB
      go_wp2
      go_roundw
      case measure => simp [intOf]; omega
      case rel => exact ⟨i + 1, by omega, by go_num, HN⟩
    · have hdl : decide ((i : Int) < (n : Int)) = false := decide_eq_false (by omega)
      obtain rfl : n = i := by omega
      go_wp2
      go_ret
      obtain ⟨D, h1, h2, h3, h4⟩ := HI.out
      exact ⟨D, rfl, h1, h2, h3, h4⟩
end Go.Proofs.Ytapjodbaaejldaa
