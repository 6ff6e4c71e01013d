/-
The contracts of ring.wordCounts, ring.Rings and ring.Words.
-/
import Derived.Test.YtiphclgafhbplaaRCheck
namespace Go.Proofs.Ytiphclgafhbplaa
open Go.RowKit

theorem row_store {w wr : World} {B N i : Nat} {t : TypeId} {v : Int} {f g : Nat → Int} (hrow : wr.rowIs B t N (fun j => .int .i64 (f j))) (hbel : Below B w wr) (hg : ∀ j, j < N → g j = if j = i then v else f j) :
    ∀ d, ((wr.drewN d).setCell ⟨B, i, none⟩ (.int .i64 v)).rowIs B t N (fun j => .int .i64 (g j)) ∧ Below B w ((wr.drewN d).setCell ⟨B, i, none⟩ (.int .i64 v)) := by
  intro d
  refine ⟨(World.rowIs.set (w := wr.drewN d) hrow i _).congr fun j hj => ?_, (bl_drewN hbel d).setCell (Nat.le_refl _) _⟩
  rw [hg j hj]
  by_cases h : j = i
  · rw [if_pos h, if_pos h]
  · rw [if_neg h, if_neg h]
theorem i64_of {a : Int} (h1 : -1000000 ≤ a) (h2 : a ≤ 1000000) : IntKind.i64.wrap a = a := IntWalk.i64_in _ (by omega)
set_option maxHeartbeats 1000000 in
theorem wordCounts_ok (k n : Nat) (w : World) (h : Rm.Ok k n) :
    Calls Try.prog 15 #[.int .i64 (k : Int), .int .i64 (n : Int)] w (RetInts (n + 1) (fun m => Rm.lw k m) w) := by
  have hk1 := h.k1
  have hk8 := h.k8
  have hn1 := h.n1
  have hn5 := h.n5
  have HO := hid h
  clear h
  obtain ⟨N, hN⟩ : ∃ N, N = n + 1 := ⟨_, rfl⟩
  have eN : (n : Int) + 1 = (N : Int) := by omega
  have hwN : IntKind.i64.wrap (N : Int) = (N : Int) := i64_of (by omega) (by omega)
  have HN := hid hN
  have hNn : n < N := by omega
  have hN5 : N ≤ 513 := by omega
  rw [← hN]
  clear hN
  have hmk := run_make_row' (P := Try.prog) 35 3 (.int .i64 0) 8 Try.underlying35 Try.infoInt rfl .i64 .i64 N (by omega) (by omega) w
  have hmade := World.rowIs_made w (.int .i64 0) N 3
  have hb0 := bl_new w (.cells (madeCells #[.int .i64 0] N) 3)
  generalize w.alloc (.cells (madeCells #[.int .i64 0] N) 3) = w0 at hmk hmade hb0
  have HM := hid hmade
  clear hmade
  go_enter Try.func15, Try.ntmps15
  go_wp2
  clear hmk
  go_loopw [6, 7] (fun x y wr => ∃ z c : Nat, 1 ≤ z ∧ z ≤ N ∧ x = .int .i64 (c : Int) ∧ y = .int .i64 (z : Int) ∧ Hid (c * k = k ^ z) ∧ c ≤ 512 ∧ Hid (wr.rowIs w.heap.size 3 N (fun m => .int .i64 (Rm.st k z m))) ∧ Hid (Below w.heap.size w wr)) (fun _ y _ => N - (intOf y).toNat)
  case atStart => exact ⟨1, 1, by omega, by omega, rfl, rfl, hid (by simp), by omega, hid (HM.out.congr fun m _ => by rw [Rm.st_start]), hid hb0⟩
  case round =>
    clear HM hb0
    obtain ⟨z, c, hz1, hzN, rfl, rfl, HC, hc, HR, HB⟩ := hrel
    by_cases hlt : z ≤ n
    · have hlt' : (z : Int) ≤ (n : Int) := by omega
      have hzN' : (z : Int) < (N : Int) := by omega
      obtain ⟨c', hc'⟩ : ∃ c', c' = c * k := ⟨_, rfl⟩
      have ec : (c : Int) * (k : Int) = (c' : Int) := by rw [hc']; simp
      have hcz : c' = k ^ z := by rw [hc', HC.out]
      have hb : c' ≤ 512 := by rw [hcz]; exact Nat.le_trans (Rm.pow_mono hk1 hlt) HO.out.few
      have hw : IntKind.i64.wrap (c' : Int) = (c' : Int) := i64_of (by omega) (by omega)
      have HC' := hid (show c' * k = k ^ (z + 1) by rw [hcz, pow_next])
      have hlt2 := HR.out.lt
      have hci := HR.out.cell (i := z) (by omega)
      have hfi := HR.out.frozen z
      obtain ⟨v, hv⟩ : ∃ v, v = Rm.st k z z := ⟨_, rfl⟩
      obtain ⟨p, hp⟩ : ∃ p, p = Rm.pc k z := ⟨_, rfl⟩
      have hvp : v + (c' : Int) = p := by rw [hv, hp, hcz]; exact Rm.st_self (by omega)
      have hpb := Rm.pc_all HO.out hlt
      rw [← hp] at hpb
      have hwp : IntKind.i64.wrap p = p := i64_of (by omega) (by omega)
      try simp only at hci
      rw [← hv] at hci
      have R0 := row_store (i := z) (v := p) (g := Rm.im k z (2 * z)) HR.out HB.out (fun j hj => by rw [Rm.im_start, hp, Rm.st_self (show 0 < z by omega)]) 0
      have R1 := hid R0
      clear R0 HR HB HC hc'
      have HP := hid hp
      have HCZ := hid hcz
      clear hp hv hcz
      obtain ⟨l0, hl0⟩ : ∃ l0, l0 = 2 * z := ⟨_, rfl⟩
      have el0 : (2 : Int) * (z : Int) = (l0 : Int) := by omega
      have HL0 := hid hl0
      have hl0b : l0 ≤ 2000 := by omega
      have hwl : IntKind.i64.wrap (l0 : Int) = (l0 : Int) := i64_of (by omega) (by omega)
      clear hl0
      go_wp2
      have hne : (wr.setCell ⟨w.heap.size, z, none⟩ (.int .i64 p)).rowIs w.heap.size 3 N (fun j => .int .i64 (Rm.im k z l0 j)) ∧ Below w.heap.size w (wr.setCell ⟨w.heap.size, z, none⟩ (.int .i64 p)) := by rw [HL0.out]; exact R1.out
      have R2 := hid hne
      clear hne R1 hci hfi
      generalize wr.setCell ⟨w.heap.size, z, none⟩ (.int .i64 p) = wi at *
      clear hvp
      go_loopw [8] (fun x wr => ∃ l : Nat, x = .int .i64 (l : Int) ∧ Hid (l % z = 0) ∧ z < l ∧ l ≤ 2 * N ∧ Hid (wr.rowIs w.heap.size 3 N (fun m => .int .i64 (Rm.im k z l m))) ∧ Hid (Below w.heap.size w wr)) (fun x _ => 2 * N - (intOf x).toNat)
      case atStart => exact ⟨l0, rfl, hid (by rw [HL0.out]; exact Nat.mul_mod_left 2 z), by have := HL0.out; omega, by have := HL0.out; omega, hid R2.out.1, hid R2.out.2⟩
      case round =>
        clear R2
        obtain ⟨l, rfl, HD, hzl, hl2, HR, HB⟩ := hrel
        by_cases hln : l ≤ n
        · have hln' : (l : Int) ≤ (n : Int) := by omega
          have hlN : (l : Int) < (N : Int) := by omega
          have hcl := HR.out.cell (i := l) (by omega)
          have hcz := HR.out.cell (i := z) (by omega)
          have hfl := HR.out.frozen l
          have hlt2 := HR.out.lt
          try simp only at hcl hcz
          rw [Rm.im_self (show 0 < z by omega), ← HP.out] at hcz
          obtain ⟨u, hu⟩ : ∃ u, u = Rm.im k z l l := ⟨_, rfl⟩
          have hub := Rm.im_bound HO.out (size := z) (l := l) (m := l) hlt hln
          rw [← hu] at hcl hub
          have hwu : IntKind.i64.wrap (u - p) = u - p := i64_of (by omega) (by omega)
          have R := hid (row_store (i := l) (v := u - p) (g := Rm.im k z (l + z)) HR.out HB.out (fun j hj => by rw [Rm.im_step HD.out hzl, hu, HP.out]))
          clear hu HR HB
          obtain ⟨l', hl'⟩ : ∃ l', l' = l + z := ⟨_, rfl⟩
          have el' : (l : Int) + (z : Int) = (l' : Int) := by omega
          have hwl' : IntKind.i64.wrap (l' : Int) = (l' : Int) := i64_of (by omega) (by omega)
          have HL := hid hl'
          clear hl'
          go_wp2
          go_region
          go_wp2
          go_roundw
          case rel =>
            have hl' := HL.out
            refine ⟨l', by go_num, hid ?_, by omega, by omega, hid ?_, hid ?_⟩
            · rw [hl', Nat.add_mod_right]; exact HD.out
            · rw [hl']; exact (R.out 1).1
            · exact (R.out 1).2
          case measure => simp [intOf]; have := HL.out; omega
        · have hln' : decide ((l : Int) ≤ (n : Int)) = false := decide_eq_false (by omega)
          have R := hid (HR.out.congr fun j hj => by rw [Rm.im_end (n := n) (show 0 < z by omega) (by omega) (by have := HN.out; omega)])
          go_wp2
          go_roundw
          case rel => exact ⟨z + 1, c', by omega, by omega, by trivial, by go_num, HC', by omega, R, HB⟩
          case measure => simp [intOf]; omega
    · have hln' : decide ((z : Int) ≤ (n : Int)) = false := decide_eq_false (by omega)
      have R := hid (HR.out.congr (g := fun m => .int .i64 (Rm.dv k 1 m)) fun j hj => by rw [Rm.dv_start, Rm.st_done (by have := HN.out; omega)])
      clear HR HC
      go_wp2
      go_loopw [9] (fun x wr => ∃ z : Nat, 1 ≤ z ∧ z ≤ N ∧ x = .int .i64 (z : Int) ∧ Hid (wr.rowIs w.heap.size 3 N (fun m => .int .i64 (Rm.dv k z m))) ∧ Hid (Below w.heap.size w wr)) (fun x _ => N - (intOf x).toNat)
      case atStart => exact ⟨1, by omega, by omega, rfl, R, HB⟩
      case round =>
        clear R HB
        obtain ⟨y, hy1, hyN, rfl, HR, HB⟩ := hrel
        by_cases hyn : y ≤ n
        · have hyn' : (y : Int) ≤ (n : Int) := by omega
          have hyN' : (y : Int) < (N : Int) := by omega
          have hcl := HR.out.cell (i := y) (by omega)
          have hfl := HR.out.frozen y
          have hlt2 := HR.out.lt
          try simp only at hcl
          rw [Rm.dv_self] at hcl
          have hpb := Rm.pc_all HO.out hyn
          have hlb := Rm.lw_bound HO.out hyn
          obtain ⟨u, hu⟩ : ∃ u, u = Rm.pc k y := ⟨_, rfl⟩
          obtain ⟨q, hq⟩ : ∃ q, q = Rm.lw k y := ⟨_, rfl⟩
          have hq1 : u / (y : Int) = q := by rw [hu, hq]; rfl
          have hq2 : Int.tdiv u (y : Int) = q := by rw [Int.tdiv_eq_ediv_of_nonneg (by rw [hu]; exact hpb.1)]; exact hq1
          rw [← hu] at hcl hpb
          rw [← hq] at hlb
          have hwq : IntKind.i64.wrap q = q := i64_of (by omega) (by omega)
          have hy0 : ((y : Int) == 0) = false := beq_eq_false_iff_ne.2 (by omega)
          have hy0' : (y : Int) ≠ 0 := by omega
          have R := hid (row_store (i := y) (v := q) (g := Rm.dv k (y + 1)) HR.out HB.out (fun j hj => by rw [Rm.dv_step, hq]) 0)
          clear hu hq HR HB
          go_wp2
          go_roundw
          case rel => exact ⟨y + 1, by omega, by omega, by go_num, hid R.out.1, hid R.out.2⟩
          case measure => simp [intOf]; omega
        · have hln' : decide ((y : Int) ≤ (n : Int)) = false := decide_eq_false (by omega)
          go_wp2
          go_ret
          have hn := HN.out
          refine ⟨_, _, rfl, fun j hj => ⟨_, _, rfl, HR.out.lt, ?_⟩, HB.out⟩
          rw [Nat.zero_add, HR.out.cell hj]
          try simp only
          rw [show y = n + 1 by omega, Rm.dv_end (by omega)]
end Go.Proofs.Ytiphclgafhbplaa
