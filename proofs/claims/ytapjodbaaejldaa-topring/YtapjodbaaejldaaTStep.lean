
/-
The contracts of turn.lesser and turn.step: how many bytes are less, and a step of the way back.
-/
import Derived.Test.YtapjodbaaejldaaTPut
namespace Go.Proofs.Ytapjodbaaejldaa
open Go.RowKit

/-- How many of the first m bytes of s are b. -/
def eqN (s : ByteArray) (b m : Nat) : Nat := Tm.cnt (fun i => decide (Lm.bn (lst s) i = b)) m
/-- How many bytes of s are less than b. -/
def lsN (s : ByteArray) (b : Nat) : Nat := Tm.cnt (fun i => decide (Lm.bn (lst s) i < b)) s.size
theorem bn_byte {s : ByteArray} {i : Nat} (h : i < s.size) : Lm.bn (lst s) i = s[i].toNat := by unfold Lm.bn; rw [lst_get, byt_eq h]
theorem sp_is (s : ByteArray) (b m : Nat) : Tm.sp (lst s) b m = lsN s b + eqN s b m := by unfold Tm.sp lsN eqN; rw [lst_len]
theorem eqN_succ {s : ByteArray} {i : Nat} (h : i < s.size) (b : Nat) : eqN s b (i + 1) = if b = s[i].toNat then eqN s b i + 1 else eqN s b i := by
  unfold eqN
  rw [show Tm.cnt (fun i => decide (Lm.bn (lst s) i = b)) (i + 1) = Tm.cnt (fun i => decide (Lm.bn (lst s) i = b)) i + (decide (Lm.bn (lst s) i = b)).toNat from rfl, bn_byte h]
  by_cases e : b = s[i].toNat
  · rw [if_pos e, decide_eq_true e.symm]; rfl
  · rw [if_neg e, decide_eq_false (fun h => e h.symm)]; rfl
theorem eqN_le (s : ByteArray) (b m : Nat) : eqN s b m ≤ m := Tm.cnt_le _ _
theorem lsN_le (s : ByteArray) (b : Nat) : lsN s b ≤ s.size := Tm.cnt_le _ _
theorem lsN_zero (s : ByteArray) : lsN s 0 = 0 := by
  have := Tm.cnt_mono (n := s.size) (P := fun i => decide (Lm.bn (lst s) i < 0)) (Q := fun i => decide (i < 0)) fun j _ h => by simp at h
  rw [Tm.cnt_below] at this
  unfold lsN
  omega
theorem lsN_succ (s : ByteArray) (b : Nat) : lsN s (b + 1) = lsN s b + eqN s b s.size := by
  unfold lsN eqN
  refine Tm.cnt_or (fun j _ h => ?_) (fun j _ => ?_)
  · simp at h; omega
  · rw [← Bool.decide_or]
    exact decide_eq_decide.2 (by omega)
theorem zero47 : Try.zeroCells121 = madeCells #[.int .i64 0] 256 := by kernel_rfl
/-- The three blocks of turn.lesser. -/
structure Les (w0 : World) (N : Nat) (f g : Nat → Nat) (w : World) : Prop where
  fr : w.rowIs (N + 1) 121 256 (fun c => .int .i64 (f c : Int))
  gr : w.rowIs (N + 1 + 1) 121 256 (fun c => .int .i64 (g c : Int))
  bel : Below N w0 w
  own : ∃ f, w.rowIs N 121 256 f
theorem Les.start (w : World) : Les w w.heap.size (fun _ => 0) (fun _ => 0) (((w.alloc (.cells Try.zeroCells121 121)).alloc (.cells Try.zeroCells121 121)).alloc (.cells Try.zeroCells121 121)) := by
  rw [zero47]
  have h1 := World.rowIs_made (w.alloc (.cells (madeCells #[.int .i64 0] 256) 121)) (.int .i64 0) 256 121
  have h2 := World.rowIs_made ((w.alloc (.cells (madeCells #[.int .i64 0] 256) 121)).alloc (.cells (madeCells #[.int .i64 0] 256) 121)) (.int .i64 0) 256 121
  have hb1 := bl_new w (.cells (madeCells #[.int .i64 0] 256) 121)
  have hb2 := bl_new (w.alloc (.cells (madeCells #[.int .i64 0] 256) 121)) (.cells (madeCells #[.int .i64 0] 256) 121)
  have hb3 := bl_new ((w.alloc (.cells (madeCells #[.int .i64 0] 256) 121)).alloc (.cells (madeCells #[.int .i64 0] 256) 121)) (.cells (madeCells #[.int .i64 0] 256) 121)
  have hz1 : (w.alloc (.cells (madeCells #[.int .i64 0] 256) 121)).heap.size = w.heap.size + 1 := by simp
  have hz2 : ((w.alloc (.cells (madeCells #[.int .i64 0] 256) 121)).alloc (.cells (madeCells #[.int .i64 0] 256) 121)).heap.size = w.heap.size + 1 + 1 := by simp
  rw [hz1] at h1
  rw [hz2] at h2
  have h0 := World.rowIs_made w (.int .i64 0) 256 121
  exact ⟨rowIs_same h1 (hb3.block _ (by rw [hz2]; omega)), h2, bl_then (bl_then hb1 hb2) hb3, _, rowIs_same (rowIs_same h0 (hb2.block _ (by rw [hz1]; omega))) (hb3.block _ (by rw [hz2]; omega))⟩
theorem Les.setF {w0 w : World} {N : Nat} {f g f' : Nat → Nat} (h : Les w0 N f g w) (c : Nat) (v : Int) (hf : ∀ j, (f' j : Int) = if j = c then v else (f j : Int)) (d : Nat) : Les w0 N f' g ((w.drewN d).setCell ⟨N + 1, c, none⟩ (.int .i64 v)) := by
  refine ⟨(World.rowIs.set (w := w.drewN d) h.fr c _).congr fun j _ => ?_, rowIs_same h.gr (Below.heap_setCell (w.drewN d) ⟨N + 1, c, none⟩ _ _ (by show N + 1 + 1 ≠ N + 1; omega)), (bl_drewN h.bel d).setCell (by show N ≤ N + 1; omega) _, h.own.imp fun _ h0 => rowIs_same h0 (Below.heap_setCell (w.drewN d) ⟨N + 1, c, none⟩ _ _ (by show N ≠ N + 1; omega))⟩
  rw [hf j]
  by_cases e : j = c
  · rw [if_pos e, if_pos e]
  · rw [if_neg e, if_neg e]
theorem Les.setG {w0 w : World} {N : Nat} {f g g' : Nat → Nat} (h : Les w0 N f g w) (c : Nat) (v : Int) (hf : ∀ j, (g' j : Int) = if j = c then v else (g j : Int)) (d : Nat) : Les w0 N f g' ((w.drewN d).setCell ⟨N + 1 + 1, c, none⟩ (.int .i64 v)) := by
  refine ⟨rowIs_same h.fr (Below.heap_setCell (w.drewN d) ⟨N + 1 + 1, c, none⟩ _ _ (by show N + 1 ≠ N + 1 + 1; omega)), (World.rowIs.set (w := w.drewN d) h.gr c _).congr fun j _ => ?_, (bl_drewN h.bel d).setCell (by show N ≤ N + 1 + 1; omega) _, h.own.imp fun _ h0 => rowIs_same h0 (Below.heap_setCell (w.drewN d) ⟨N + 1 + 1, c, none⟩ _ _ (by show N ≠ N + 1 + 1; omega))⟩
  rw [hf j]
  by_cases e : j = c
  · rw [if_pos e, if_pos e]
  · rw [if_neg e, if_neg e]
/-- The array that turn.lesser hands back. -/
def lesA (s : ByteArray) : Array Value := ((List.range 256).map fun b => Value.int .i64 (lsN s b : Int)).toArray
theorem below_setRow {w wr : World} {N : Nat} (h : Below N w wr) (cs : Array Value) : Below N w (wr.setRow N cs) :=
  ⟨h.os, h.tape, h.output, by have := h.size; simpa [World.setRow] using this, fun k hk => (setRow_other wr N k cs (by omega)).trans (h.block k hk)⟩
theorem lesA_size (s : ByteArray) : (lesA s).size = 256 := by unfold lesA; simp
theorem lesA_one (s : ByteArray) : (lesA s).all (·.oneCell') = true := by
  unfold lesA
  rw [Array.all_eq_true_iff_forall_mem]
  intro v hv
  simp at hv
  obtain ⟨_, _, rfl⟩ := hv
  rfl
set_option maxHeartbeats 1000000 in
theorem lesser_any (s : ByteArray) (w : World) (hs : s.size ≤ 200) : Calls Try.prog 95 #[.string s] w fun e w' => e = .returned (.agg (lesA s)) ∧ Below w.heap.size w w' := by
  have L0 := hid (Les.start w)
  go_enter Try.func95, Try.ntmps95
  go_wp2
  generalize ((w.alloc (.cells Try.zeroCells121 121)).alloc (.cells Try.zeroCells121 121)).alloc (.cells Try.zeroCells121 121) = w0 at *
  go_loopw [9] (fun x wr => ∃ i : Nat, i ≤ s.size ∧ x = .int .i64 i ∧ Hid (Les w w.heap.size (fun c => eqN s c i) (fun _ => 0) wr)) (fun x _ => s.size - (intOf x).toNat)
  case atStart => exact ⟨0, by omega, rfl, L0⟩
  case round =>
    obtain ⟨i, hi, rfl, HL⟩ := hrel
    by_cases hlt : i < s.size
    · have hlt' : (i : Int) < (s.size : Int) := by omega
      have hc : s[i].toNat < 256 := s[i].toNat_lt
      have hc' : (s[i].toNat : Int) < 256 := by omega
      have hcell := HL.out.fr.cell hc
      have hroom := HL.out.fr.frozen s[i].toNat
      obtain ⟨k, hk⟩ : ∃ k, k = eqN s s[i].toNat i := ⟨_, rfl⟩
      have hkb : k ≤ 200 := by have := eqN_le s s[i].toNat i; omega
      rw [← hk] at hcell
      have R := hid (HL.out.setF (f' := fun c => eqN s c (i + 1)) s[i].toNat ((k : Int) + 1) (fun j => by
        rw [eqN_succ hlt]
        by_cases e : j = s[i].toNat
        · rw [if_pos e, if_pos e, hk, e]; rfl
        · rw [if_neg e, if_neg e]) 0)
      clear HL hk
      go_wp2
      go_roundw
      case measure => simp [intOf]; omega
      case rel => exact ⟨i + 1, by omega, by go_num, hid R.out⟩
    · have hlt' : decide ((i : Int) < (s.size : Int)) = false := decide_eq_false (by omega)
      obtain rfl : i = s.size := by omega
      go_wp2
      go_loopw [6] (fun x wr => ∃ b : Nat, 1 ≤ b ∧ b ≤ 256 ∧ x = .int .i64 b ∧ Hid (Les w w.heap.size (fun c => eqN s c s.size) (fun c => if c < b then lsN s c else 0) wr)) (fun x _ => 256 - (intOf x).toNat)
      case atStart =>
        refine ⟨1, by omega, by omega, rfl, ?_⟩
        have h := HL.out
        refine hid ⟨h.fr, h.gr.congr fun c _ => ?_, h.bel, h.own⟩
        by_cases e : c < 1
        · rw [if_pos e, show c = 0 by omega, lsN_zero]
        · rw [if_neg e]
      case round =>
        clear HL
        obtain ⟨b, hb1, hb2, rfl, HL⟩ := hrel
        by_cases hbl : b < 256
        · have hbl' : (b : Int) < 256 := by omega
          obtain ⟨c, hcb⟩ : ∃ c, b = c + 1 := ⟨b - 1, by omega⟩
          have ec : (b : Int) - 1 = (c : Int) := by omega
          have hcl : c < 256 := by omega
          have hcl' : (c : Int) < 256 := by omega
          have hwc : IntKind.i64.wrap (c : Int) = (c : Int) := IntWalk.i64_in _ (by omega)
          have hc0 : (0 : Int) ≤ (c : Int) := by omega
          have h1 := HL.out.fr.cell hcl
          have h2 := HL.out.gr.cell hcl
          have h3 := HL.out.gr.cell hbl
          have hroom := HL.out.gr.frozen b
          rw [if_pos (by omega)] at h2
          have hsu := lsN_succ s c
          have hle := lsN_le s (c + 1)
          obtain ⟨x, hx⟩ : ∃ x, x = eqN s c s.size := ⟨_, rfl⟩
          obtain ⟨y, hy⟩ : ∃ y, y = lsN s c := ⟨_, rfl⟩
          obtain ⟨z, hz⟩ : ∃ z, z = lsN s (c + 1) := ⟨_, rfl⟩
          rw [← hx] at h1
          rw [← hy] at h2
          have ez : (y : Int) + (x : Int) = (z : Int) := by omega
          have hwz : IntKind.i64.wrap (z : Int) = (z : Int) := IntWalk.i64_in _ (by omega)
          have R := hid (HL.out.setG (g' := fun c => if c < b + 1 then lsN s c else 0) b (z : Int) (fun j => by
            by_cases e : j = b
            · rw [if_pos e, if_pos (by omega), hz, e, hcb]
            · rw [if_neg e]
              by_cases e2 : j < b
              · rw [if_pos e2, if_pos (by omega)]
              · rw [if_neg e2, if_neg (by omega)]))
          have HCB := hid hcb
          clear HL hx hy hz hsu hle hcb
          go_wp2
          go_region
          go_wp2
          go_roundw
          case measure => simp [intOf]; omega
          case rel => exact ⟨b + 1, by omega, by omega, by go_num, hid (R.out _)⟩
        · obtain rfl : b = 256 := by omega
          have hd : decide ((256 : Int) < 256) = false := by decide
          obtain ⟨cs, hg, hz⟩ : ∃ cs, wr.heap[w.heap.size + 1 + 1]? = some (.cells cs 121 (0, 0)) ∧ cs = lesA s := by
            obtain ⟨c, h1, h2, h3⟩ := HL.out.gr
            refine ⟨c, h1, Array.ext_getElem? fun i => ?_⟩
            unfold lesA
            by_cases hi : i < 256
            · rw [h3 i hi]
              simp [hi]
            · rw [Array.getElem?_eq_none (by omega), Array.getElem?_eq_none (by simp; omega)]
          obtain ⟨f0, old, ho, hoz, _⟩ := HL.out.own
          have hbel := HL.out.bel
          have hls : cs.size = 256 := by rw [hz]; exact lesA_size s
          have hla : cs.all (·.oneCell') = true := by rw [hz]; exact lesA_one s
          have hinf : (Try.prog.info? 121).map (·.size) = some cs.size := by rw [hls]; kernel_rfl
          have hoz2 : old.size = cs.size := by rw [hls, hoz]
          have HH := hid (setRow_heap wr w.heap.size old cs 121 (0, 0) ho)
          have HB2 : Hid (Below w.heap.size w (wr.setRow w.heap.size cs)) := below_setRow hbel cs
          have HZ := hid hz
          clear HL hz
          go_wp2_with (first | (with_reducible refine wpList_load_row rfl 121 _ rfl (w.heap.size + 1 + 1) rfl 121 cs (0, 0) _ hg Try.underlying121 rfl hinf ?_) | (with_reducible refine wpList_store_row rfl 121 _ _ rfl w.heap.size cs rfl rfl 121 old ho hinf hoz2 hla ?_))
          refine bodyPost_ret (results_cell_row rfl _ _ w.heap.size 121 cs _ _ rfl HH.out Try.underlying121 rfl hinf) rfl ?_
          exact ⟨by rw [HZ.out], HB2.out⟩
set_option maxHeartbeats 400000 in
theorem step_any (s : ByteArray) (b n : Nat) (w : World) (hs : s.size ≤ 200) (hb : b < 256) (hn : n ≤ s.size) :
    Calls Try.prog 96 #[.string s, .agg (lesA s), .int .u8 (b : Int), .int .i64 (n : Int)] w fun e w' => e = .returned (.int .i64 (Tm.sp (lst s) b n : Int)) ∧ Below w.heap.size w w' := by
  have hc0 : (lesA s)[b]? = some (.int .i64 (lsN s b : Int)) := by unfold lesA; simp [hb]
  have hcell : (w.alloc (.cells (lesA s) 121)).cell? ⟨w.heap.size, b, none⟩ = some (.int .i64 (lsN s b : Int)) := by
    rw [cell_of_row _ _ _ _ _ _ (heap_alloc_new w _)]; exact hc0
  have hbel := bl_new w (.cells (lesA s) 121)
  have hb' : (b : Int) < 256 := by omega
  have hsp := sp_is s b n
  have hl := lsN_le s b
  obtain ⟨l, hlx⟩ : ∃ l, l = lsN s b := ⟨_, rfl⟩
  rw [← hlx] at hcell hsp hl
  have HSP := hid hsp
  have hlsz := lesA_size s
  generalize lesA s = cs at *
  clear hc0 hsp hlx
  go_enter Try.func96, Try.ntmps96
  go_wp2
  generalize w.alloc (.cells cs 121) = w0 at *
  go_loopw [15, 9] (fun x y wr => ∃ i k : Nat, i ≤ n ∧ x = .int .i64 i ∧ y = .int .i64 k ∧ Hid (k = l + eqN s b i) ∧ wr = w0) (fun x _ _ => n - (intOf x).toNat)
  case atStart => exact ⟨0, l, by omega, rfl, rfl, hid (by unfold eqN; rfl), rfl⟩
  case round =>
    obtain ⟨i, k, hi, rfl, rfl, HK, rfl⟩ := hrel
    by_cases hlt : i < n
    · have hlt' : (i : Int) < (n : Int) := by omega
      have his : i < s.size := by omega
      have his' : (i : Int) < (s.size : Int) := by omega
      have hes := eqN_succ his b
      have hkb : k ≤ 1000 := by have := HK.out; have := eqN_le s b i; omega
      by_cases he : b = s[i].toNat
      · have heq : ((s[i].toNat : Int) == (b : Int)) = true := beq_iff_eq.2 (by omega)
        rw [if_pos he] at hes
        have HES := hid hes
        clear hes he
        go_wp2
        go_roundw
        case measure => simp [intOf]; omega
        case rel => exact ⟨i + 1, k + 1, by omega, by go_num, by go_num, hid (by rw [HES.out, HK.out]; omega), by trivial⟩
      · have heq : ((s[i].toNat : Int) == (b : Int)) = false := beq_eq_false_iff_ne.2 (by omega)
        rw [if_neg he] at hes
        have HES := hid hes
        clear hes he
        go_wp2
        go_roundw
        case measure => simp [intOf]; omega
        case rel => exact ⟨i + 1, k, by omega, by go_num, rfl, hid (by rw [HES.out, HK.out]), by trivial⟩
    · obtain rfl : n = i := by omega
      have hlt' : decide ((n : Int) < (n : Int)) = false := decide_eq_false (by omega)
      go_wp2
      go_ret
      exact ⟨ret_int (by rw [HSP.out, HK.out]), hbel⟩
end Go.Proofs.Ytapjodbaaejldaa
