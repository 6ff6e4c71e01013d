
/-
The contract of quillref.FarOf: a table of numbers whose rows are made from the last one on.
-/
import Derived.Test.YtppaicpjbcjgmaaLevMath
import Derived.Test.YtppaicpjbcjgmaaDist
import Derived.Deep.RegionHeld3
namespace Go.Proofs.Ytppaicpjbcjgmaa
open Go.RowKit

theorem far_ints : (Try.prog.info? 26).map (fun i => (i.zero, i.size, i.bytes)) = some (some (.slice none 0 0), 1, 24) := by kernel_rfl
/-- In which block row i lies: the last row is made first. -/
def rb (B N i : Nat) : Nat := B + N - i
/-- The outer row when the rows from c on are made. -/
def topD (B N M c : Nat) : Nat → Value := fun j => if c ≤ j then .slice (some ⟨rb B N j, 0, none⟩) M M else .slice none 0 0
structure TabD (w wr : World) (B N M c : Nat) (f : Nat → Nat → Nat) : Prop where
  few : c ≤ N
  below : Below B w wr
  base : wr.heap.size = B + 1 + (N - c)
  top : wr.rowIs B 26 N (topD B N M c)
  rows : ∀ i, c ≤ i → i < N → wr.rowIs (rb B N i) 3 M (fun j => .int .i64 (f i j : Nat))
theorem TabD.congr {w wr : World} {B N M c : Nat} {f g : Nat → Nat → Nat} (h : TabD w wr B N M c f) (e : ∀ i j, c ≤ i → i < N → j < M → f i j = g i j) : TabD w wr B N M c g :=
  ⟨h.few, h.below, h.base, h.top, fun i hi hN => (h.rows i hi hN).congr fun j hj => by rw [e i j hi hN hj]⟩
theorem TabD.drewN {w wr : World} {B N M c : Nat} {f : Nat → Nat → Nat} (h : TabD w wr B N M c f) (d : Nat) : TabD w (wr.drewN d) B N M c f := ⟨h.few, bl_drewN h.below d, h.base, h.top, h.rows⟩
theorem TabD.start (w : World) (N M : Nat) (f : Nat → Nat → Nat) : TabD w (w.alloc (.cells (madeCells #[.slice none 0 0] N) 26)) w.heap.size N M N f :=
  ⟨Nat.le_refl _, bl_new w _, by simp, (World.rowIs_made w _ N 26).congr fun j hj => by simp [topD]; omega, fun i hi hN => absurd hi (by omega)⟩
/-- Rows behind i are filled; and of row i all from k on. -/
def fillX (F : Nat → Nat → Nat) (i k p q : Nat) : Nat := if i < p ∨ p = i ∧ k ≤ q then F p q else 0
theorem fillX_end (F : Nat → Nat → Nat) {i p : Nat} (q : Nat) (h : i ≤ p) : fillX F i 0 p q = F p q := if_pos (by omega)
theorem fillX_row (F : Nat → Nat → Nat) {i k p q : Nat} (h : i < p) : fillX F i k p q = F p q := if_pos (.inl h)
theorem fillX_col (F : Nat → Nat → Nat) {i k q : Nat} (h : k ≤ q) : fillX F i k i q = F i q := if_pos (.inr ⟨rfl, h⟩)
theorem fillX_step (F : Nat → Nat → Nat) (i k p q : Nat) : fillX F i k p q = if p = i ∧ q = k then F i k else fillX F i (k + 1) p q := by
  unfold fillX
  by_cases h : p = i ∧ q = k
  · obtain ⟨rfl, rfl⟩ := h
    rw [if_pos (c := p = p ∧ q = q) ⟨rfl, rfl⟩, if_pos (Or.inr ⟨rfl, Nat.le_refl _⟩)]
  · rw [if_neg h]
    by_cases h2 : i < p ∨ p = i ∧ k ≤ q
    · rw [if_pos h2, if_pos (by omega)]
    · rw [if_neg h2, if_neg (by omega)]
/-- 't[i] = make([]int, M)'. -/
theorem TabD.row {w wr : World} {B N M i : Nat} {F : Nat → Nat → Nat} (h : TabD w wr B N M (i + 1) F) (d : Nat) :
    TabD w (((wr.alloc (.cells (madeCells #[.int .i64 0] M) 3)).drewN d).setCell ⟨B, i, none⟩ (.slice (some ⟨rb B N i, 0, none⟩) M M)) B N M i (fillX F i M) := by
  have hnew := World.rowIs_made wr (.int .i64 0) M 3
  have hfew := h.few
  have hsz : wr.heap.size = rb B N i := by rw [h.base]; unfold rb; omega
  have hBs : B < wr.heap.size := by rw [h.base]; omega
  rw [hsz] at hnew
  have htop : ((wr.alloc (.cells (madeCells #[.int .i64 0] M) 3)).drewN d).rowIs B 26 N (topD B N M (i + 1)) := h.top.alloc _
  refine ⟨by omega, (bl_drewN (h.below.alloc (by omega) _) d).setCell (Nat.le_refl _) _, by simp [h.base]; omega, (htop.set i _).congr fun j _ => ?_, fun p hp hN => ?_⟩
  · unfold topD
    by_cases e : j = i
    · subst e; rw [if_pos rfl, if_pos (Nat.le_refl _)]
    · rw [if_neg e]
      by_cases hlt : i + 1 ≤ j
      · rw [if_pos hlt, if_pos (by omega)]
      · rw [if_neg hlt, if_neg (by omega)]
  · have hne : rb B N p ≠ B := by unfold rb; omega
    by_cases e : p = i
    · subst e
      refine (World.rowIs.setOther (w := (wr.alloc (.cells (madeCells #[.int .i64 0] M) 3)).drewN d) hnew hne _).congr fun q hq => ?_
      unfold fillX
      rw [if_neg (by omega)]; rfl
    · refine (World.rowIs.setOther (w := (wr.alloc (.cells (madeCells #[.int .i64 0] M) 3)).drewN d) ((h.rows p (by omega) hN).alloc _) hne _).congr fun q hq => ?_
      rw [fillX_row F (by omega)]
/-- 't[i][j] = v'. -/
theorem TabD.store {w wr : World} {B N M c i j v : Nat} {f g : Nat → Nat → Nat} (h : TabD w wr B N M c f) (hi : c ≤ i) (hiN : i < N) (hg : ∀ p q, c ≤ p → p < N → q < M → g p q = if p = i ∧ q = j then v else f p q) (d : Nat) :
    TabD w ((wr.drewN d).setCell ⟨rb B N i, j, none⟩ (.int .i64 (v : Nat))) B N M c g := by
  have hne : ∀ p, p < N → rb B N p ≠ B := fun p hp => by unfold rb; omega
  have hle : B ≤ rb B N i := by unfold rb; omega
  refine ⟨h.few, (bl_drewN h.below d).setCell hle _, by simp [h.base], World.rowIs.setOther (w := wr.drewN d) h.top (fun e => hne i hiN e.symm) _, fun p hp hN => ?_⟩
  by_cases e : p = i
  · subst e
    refine (World.rowIs.set (w := wr.drewN d) (h.rows p hp hN) j _).congr fun q hq => ?_
    rw [hg p q hp hN hq]
    by_cases e2 : q = j
    · subst e2; rw [if_pos rfl, if_pos ⟨rfl, rfl⟩]
    · rw [if_neg e2, if_neg fun k => e2 k.2]
  · refine (World.rowIs.setOther (w := wr.drewN d) (h.rows p hp hN) (show rb B N p ≠ rb B N i by unfold rb; omega) _).congr fun q hq => ?_
    rw [hg p q hp hN hq, if_neg fun k => e k.1]
theorem TabD.rowAt {w wr : World} {B N M c i : Nat} {f : Nat → Nat → Nat} (h : TabD w wr B N M c f) (hi : c ≤ i) (hN : i < N) : wr.cell? ⟨B, i, none⟩ = some (.slice (some ⟨rb B N i, 0, none⟩) M M) := by
  rw [h.top.cell hN]; exact congrArg some (if_pos hi)
theorem TabD.at_ {w wr : World} {B N M c i j : Nat} {f : Nat → Nat → Nat} (h : TabD w wr B N M c f) (hi : c ≤ i) (hN : i < N) (hj : j < M) : wr.cell? ⟨rb B N i, j, none⟩ = some (.int .i64 (f i j : Nat)) := (h.rows i hi hN).cell hj

set_option maxHeartbeats 4000000 in
set_option maxRecDepth 100000 in
theorem FarOf_ok (a b : ByteArray) (w : World) (ha : a.size ≤ 200) (hb : b.size ≤ 200) :
    Calls Try.prog 14 #[.string a, .string b] w fun e w' => e = .returned (.int .i64 (Lev.lv (lst a) (lst b) : Nat)) ∧ Below w.heap.size w w' := by
  obtain ⟨N, hN⟩ : ∃ N, N = a.size + 1 := ⟨_, rfl⟩
  obtain ⟨M, hM⟩ : ∃ M, M = b.size + 1 := ⟨_, rfl⟩
  have eN : (a.size : Int) + 1 = (N : Int) := by omega
  have eM : (b.size : Int) + 1 = (M : Int) := by omega
  have hwN : IntKind.i64.wrap (N : Int) = (N : Int) := IntWalk.i64_in _ (by omega)
  have hwM : IntKind.i64.wrap (M : Int) = (M : Int) := IntWalk.i64_in _ (by omega)
  have hN5 : N ≤ 201 := by omega
  have hM5 : M ≤ 201 := by omega
  have HN := hid hN
  have HM := hid hM
  have HLA := hid (lst_len a)
  have HLB := hid (lst_len b)
  clear hN hM
  have hmk := run_make_row' (P := Try.prog) 46 26 (.slice none 0 0) 24 Try.underlying46 far_ints rfl .i64 .i64 N (by omega) (by omega) w
  have hT0 := hid (TabD.start w N M (Lev.bl (lst a) (lst b)))
  generalize w.alloc (.cells (madeCells #[.slice none 0 0] N) 26) = w0 at hmk hT0
  go_enter Try.func14, Try.ntmps14
  go_wp2
  clear hmk
  go_loopw [6] (fun x wr => ∃ i : Nat, ∃ z : Int, z + 1 = (i : Int) ∧ i ≤ N ∧ x = .int .i64 z ∧ Hid (TabD w wr w.heap.size N M i (Lev.bl (lst a) (lst b)))) (fun x _ => (intOf x + 1).toNat)
  case atStart => exact ⟨N, _, by have := HN.out; omega, by omega, rfl, hT0⟩
  case round =>
    clear hT0
    obtain ⟨i1, z, hz, hi1, rfl, HT⟩ := hrel
    by_cases hz0 : 0 ≤ z
    · obtain ⟨i, rfl⟩ : ∃ i : Nat, z = (i : Int) := ⟨z.toNat, by omega⟩
      obtain rfl : i1 = i + 1 := by omega
      have hiN : i < N := by omega
      have hiN' : (i : Int) < (N : Int) := by omega
      have hia : i ≤ a.size := by have := HN.out; omega
      clear hz hz0
      have hmk := run_make_row' (P := Try.prog) 26 3 (.int .i64 0) 8 Try.underlying26 Try.infoInt rfl .i64 .i64 M (by omega) (by omega) wr
      obtain ⟨g0, hg0⟩ : ∃ g0, g0 = rb w.heap.size N i := ⟨_, rfl⟩
      have hsz : wr.heap.size = g0 := by rw [HT.out.base, hg0]; unfold rb; omega
      have hca : ∀ o, (wr.alloc o).cell? ⟨w.heap.size, i, none⟩ = some (topD w.heap.size N M (i + 1) i) := fun o => (HT.out.top.alloc o).cell hiN
      have hfa : ∀ o, (wr.alloc o).frozen? ⟨w.heap.size, i, none⟩ = false := fun o => (HT.out.top.alloc o).frozen i
      have R0 := hid (HT.out.row 0)
      rw [← hg0] at R0
      have HG0 := hid hg0
      clear HT hg0
      go_wp2
      go_loopw [7] (fun x wr => ∃ k : Nat, ∃ z : Int, z + 1 = (k : Int) ∧ k ≤ M ∧ x = .int .i64 z ∧ Hid (TabD w wr w.heap.size N M i (fillX (Lev.bl (lst a) (lst b)) i k))) (fun x _ => (intOf x + 1).toNat)
      case atStart => exact ⟨M, _, by have := HM.out; omega, by omega, rfl, R0⟩
      case round =>
        clear R0 hmk hsz hca hfa
        obtain ⟨k1, z, hz, hk1, rfl, HT⟩ := hrel
        by_cases hz0 : 0 ≤ z
        · obtain ⟨k, rfl⟩ : ∃ k : Nat, z = (k : Int) := ⟨z.toNat, by omega⟩
          obtain rfl : k1 = k + 1 := by omega
          have hkM : k < M := by omega
          have hkM' : (k : Int) < (M : Int) := by omega
          have hkb : k ≤ b.size := by have := HM.out; omega
          clear hz hz0
          have c1 := HT.out.rowAt (Nat.le_refl i) hiN
          have hci := HT.out.at_ (Nat.le_refl i) hiN hkM
          have hfi := (HT.out.rows i (Nat.le_refl i) hiN).frozen k
          rw [← HG0.out] at c1 hci hfi
          obtain ⟨z0, hz0⟩ : ∃ z0, z0 = Lev.bl (lst a) (lst b) i k := ⟨_, rfl⟩
          have R := hid (fun d => HT.out.store (i := i) (j := k) (v := z0) (g := fillX (Lev.bl (lst a) (lst b)) i k) (Nat.le_refl i) hiN (fun p q _ _ _ => by rw [fillX_step, hz0]) d)
          rw [← HG0.out] at R
          by_cases hi : i = a.size
          · have hid1 : ((i : Int) == (a.size : Int)) = true := by rw [hi]; simp
            have hv : (b.size : Int) - (k : Int) = (z0 : Int) := by
              have := @Lev.bl_left (lst a) (lst b) k
              rw [HLA.out, ← hi, HLB.out] at this
              omega
            have hvw : IntKind.i64.wrap (z0 : Int) = (z0 : Int) := IntWalk.i64_in _ (by omega)
            clear HT hz0 hi
            go_wp2
            go_roundw
            case rel => exact ⟨k, _, by omega, by omega, rfl, hid (R.out 0)⟩
            case measure => simp [intOf]
          · have hid1 : ((i : Int) == (a.size : Int)) = false := beq_eq_false_iff_ne.2 (by omega)
            have hia2 : i < a.size := by omega
            have hia2' : (i : Int) < (a.size : Int) := by omega
            by_cases hk : k = b.size
            · have hkd : ((k : Int) == (b.size : Int)) = true := by rw [hk]; simp
              have hv : (a.size : Int) - (i : Int) = (z0 : Int) := by
                have := @Lev.bl_right (lst a) (lst b) i
                rw [HLB.out, ← hk, HLA.out] at this
                omega
              have hvw : IntKind.i64.wrap (z0 : Int) = (z0 : Int) := IntWalk.i64_in _ (by omega)
              clear HT hz0 hi hk
              go_wp2
              go_roundw
              case rel => exact ⟨k, _, by omega, by omega, rfl, hid (R.out 0)⟩
              case measure => simp [intOf]
            · have hkd : ((k : Int) == (b.size : Int)) = false := beq_eq_false_iff_ne.2 (by omega)
              have hkb2 : k < b.size := by omega
              have hkb2' : (k : Int) < (b.size : Int) := by omega
              obtain ⟨i2, hi2⟩ : ∃ i2, i2 = i + 1 := ⟨_, rfl⟩
              obtain ⟨k2, hk2⟩ : ∃ k2, k2 = k + 1 := ⟨_, rfl⟩
              have ei2 : (i : Int) + 1 = (i2 : Int) := by omega
              have ek2 : (k : Int) + 1 = (k2 : Int) := by omega
              have hwi2 : IntKind.i64.wrap (i2 : Int) = (i2 : Int) := IntWalk.i64_in _ (by omega)
              have hwk2 : IntKind.i64.wrap (k2 : Int) = (k2 : Int) := IntWalk.i64_in _ (by omega)
              have hi2N : i2 < N := by have := HN.out; omega
              have hk2M : k2 < M := by have := HM.out; omega
              have hi2N' : (i2 : Int) < (N : Int) := by omega
              have hk2M' : (k2 : Int) < (M : Int) := by omega
              have i20 : (0 : Int) ≤ (i2 : Int) := by omega
              have k20 : (0 : Int) ≤ (k2 : Int) := by omega
              obtain ⟨g2, hg2⟩ : ∃ g2, g2 = rb w.heap.size N i2 := ⟨_, rfl⟩
              have c2 := HT.out.rowAt (show i ≤ i2 by omega) hi2N
              obtain ⟨v, hv⟩ : ∃ v, v = Lev.bl (lst a) (lst b) i2 k2 := ⟨_, rfl⟩
              have c3 := HT.out.at_ (show i ≤ i2 by omega) hi2N hk2M
              rw [fillX_row _ (show i < i2 by omega), ← hv] at c3
              rw [← hg2] at c2 c3
              have K1 : ∀ d, _ := fun d => (R.out d).rowAt (Nat.le_refl i) hiN
              have K2 : ∀ d, _ := fun d => (R.out d).rowAt (show i ≤ i2 by omega) hi2N
              have K3 : ∀ d, _ := fun d => (R.out d).at_ (show i ≤ i2 by omega) hi2N hk2M
              rw [fillX_row _ (show i < i2 by omega), ← hv] at K3
              rw [← HG0.out] at K1
              rw [← hg2] at K2 K3
              by_cases he : byt a i = byt b k
              · have heq : ((a[i].toNat : Int) == (b[k].toNat : Int)) = true := by rw [← byt_eq hia2, ← byt_eq hkb2, he]; simp
                have hvz : v = z0 := by rw [hv, hz0, hi2, hk2]; exact (Lev.bl_same (a := lst a) (b := lst b) (by rw [HLA.out]; exact hia2) (by rw [HLB.out]; exact hkb2) he).symm
                subst hvz
                clear HT he hv hz0 hi2 hk2 hi hk hg2
                go_wp2
                go_quiet (fail)
                go_wp2
                go_region_held3 (fun W => W.cell? ⟨w.heap.size, i, none⟩ = some (.slice (some ⟨g0, 0, none⟩) M M) ∧ W.cell? ⟨w.heap.size, i2, none⟩ = some (.slice (some ⟨g2, 0, none⟩) M M) ∧ W.cell? ⟨g2, k2, none⟩ = some (.int .i64 (v : Int))) (first | exact ⟨c1, c2, c3⟩ | exact ⟨K1 _, K2 _, K3 _⟩) (fail)
                go_wp2
                go_roundw
                case rel => exact ⟨k, _, by omega, by omega, rfl, hid (R.out _)⟩
                case measure => simp [intOf]
              · have heq : ((a[i].toNat : Int) == (b[k].toNat : Int)) = false := by rw [← byt_eq hia2, ← byt_eq hkb2]; exact (byte_ne he).2
                obtain ⟨t, ht⟩ : ∃ t, t = Lev.bl (lst a) (lst b) i2 k := ⟨_, rfl⟩
                obtain ⟨u, hu⟩ : ∃ u, u = Lev.bl (lst a) (lst b) i k2 := ⟨_, rfl⟩
                have c4 := HT.out.at_ (show i ≤ i2 by omega) hi2N hkM
                rw [fillX_row _ (show i < i2 by omega), ← ht] at c4
                have c5 := HT.out.at_ (Nat.le_refl i) hiN hk2M
                rw [fillX_col _ (show k + 1 ≤ k2 by omega), ← hu] at c5
                have K4 : ∀ d, _ := fun d => (R.out d).at_ (show i ≤ i2 by omega) hi2N hkM
                rw [fillX_row _ (show i < i2 by omega), ← ht] at K4
                have K5 : ∀ d, _ := fun d => (R.out d).at_ (Nat.le_refl i) hiN hk2M
                rw [fillX_col _ (show k ≤ k2 by omega), ← hu] at K5
                rw [← hg2] at c4 K4
                rw [← HG0.out] at c5 K5
                have hst : z0 = 1 + min (min t u) v := by rw [ht, hu, hv, hz0, hi2, hk2]; exact Lev.bl_unlike (a := lst a) (b := lst b) (by rw [HLA.out]; exact hia2) (by rw [HLB.out]; exact hkb2) he
                obtain ⟨m, hm⟩ : ∃ m, m = min (min t u) v := ⟨_, rfl⟩
                have hz5 : z0 ≤ 400 := by rw [hz0]; have := Lev.bl_le (lst a) (lst b) i k; rw [HLA.out, HLB.out] at this; omega
                have hmn := fun (W : World) => min_three Try.prog W #[3, 3, 3] 3 (t : Int) (u : Int) (v : Int) (m : Int) (by omega)
                have hm1 : (1 : Int) + (m : Int) = (z0 : Int) := by omega
                have hmw : IntKind.i64.wrap (z0 : Int) = (z0 : Int) := IntWalk.i64_in _ (by omega)
                clear HT he hv hz0 hi2 hk2 hi hk hg2 ht hu hst hm
                go_wp2
                go_quiet (fail)
                go_wp2
                go_region_held3 (fun W => W.cell? ⟨w.heap.size, i, none⟩ = some (.slice (some ⟨g0, 0, none⟩) M M) ∧ W.cell? ⟨w.heap.size, i2, none⟩ = some (.slice (some ⟨g2, 0, none⟩) M M) ∧ W.cell? ⟨g2, k2, none⟩ = some (.int .i64 (v : Int)) ∧ W.cell? ⟨g2, k, none⟩ = some (.int .i64 (t : Int)) ∧ W.cell? ⟨g0, k2, none⟩ = some (.int .i64 (u : Int))) (first | exact ⟨c1, c2, c3, c4, c5⟩ | exact ⟨K1 _, K2 _, K3 _, K4 _, K5 _⟩) (fail)
                go_wp2
                go_roundw
                case rel => exact ⟨k, _, by omega, by omega, rfl, hid (R.out _)⟩
                case measure => simp [intOf]
        · obtain rfl : z = -1 := by omega
          obtain rfl : 0 = k1 := by omega
          have R : Hid (TabD w wr w.heap.size N M i (Lev.bl (lst a) (lst b))) := HT.out.congr fun p q hp _ _ => fillX_end _ q hp
          clear HT
          go_wp2
          go_roundw
          case rel => exact ⟨i, _, by omega, by omega, rfl, R⟩
          case measure => simp [intOf]
    · obtain rfl : z = -1 := by omega
      obtain rfl : 0 = i1 := by omega
      have hN0 : 0 < N := by have := HN.out; omega
      have hM0 : 0 < M := by have := HM.out; omega
      have hN0' : (0 : Int) < (N : Int) := by omega
      have hM0' : (0 : Int) < (M : Int) := by omega
      have c1 := HT.out.rowAt (Nat.le_refl 0) hN0
      have c2 := HT.out.at_ (Nat.le_refl 0) hN0 hM0
      rw [Lev.bl_zero] at c2
      have HB := hid HT.out.below
      clear HT
      go_wp2
      go_ret
      exact ⟨rfl, HB.out⟩
end Go.Proofs.Ytppaicpjbcjgmaa
