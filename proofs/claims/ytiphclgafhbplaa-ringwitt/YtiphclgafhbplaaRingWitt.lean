/-
The walk of quillkeep.RingWitt: for every k and n it returns true.
-/
import Derived.Test.YtiphclgafhbplaaRPub
namespace Go.Proofs.Ytiphclgafhbplaa
open Go.RowKit

theorem ok_24 : Rm.Ok 2 4 := ⟨by decide, by decide, by decide, by decide, by decide⟩
theorem words_24 (w : World) : Calls Try.prog 8 #[.int .i64 2, .int .i64 4] w fun e w' => e = .returned (.tuple #[.int .i64 3, .int .i64 0]) ∧ Below w.heap.size w w' := by
  have hc := Words_ok 2 4 w ok_24
  rw [show Rm.lw 2 4 = 3 by decide +kernel, show ((2 : Nat) : Int) = 2 from rfl, show ((4 : Nat) : Int) = 4 from rfl] at hc
  exact hc
theorem witt_err (k n : Int) (w : World) (h : ringErr k n ≠ 0) :
    Calls Try.prog 5 #[.int .i64 k, .int .i64 n] w fun e w' => e = .returned (.bool true) ∧ Below w.heap.size w w' := by
  go_enter Try.func5, Try.ntmps5
  go_wp2_with fail
  with_reducible refine (words_24 _).mono ?_
  rintro e w1 ⟨rfl, hb⟩
  have hc := Words_err k n w1 h
  obtain ⟨r, hr⟩ : ∃ r, r = ringErr k n := ⟨_, rfl⟩
  rw [← hr] at h hc
  have hne : (r == 0) = false := beq_eq_false_iff_ne.2 h
  have hne2 : (r != 0) = true := bne_iff_ne.2 h
  clear hr
  go_wp2_with fail
  with_reducible refine hc.mono ?_
  rintro e w2 ⟨rfl, rfl⟩
  go_wp2
  go_ret
  exact ⟨rfl, hb⟩
set_option maxHeartbeats 400000 in
theorem witt_ok (k n : Nat) (w : World) (h : Rm.Ok k n) :
    Calls Try.prog 5 #[.int .i64 (k : Int), .int .i64 (n : Int)] w fun e w' => e = .returned (.bool true) ∧ Below w.heap.size w w' := by
  have hk1 := h.k1
  have hk8 := h.k8
  have hn1 := h.n1
  have hn5 := h.n5
  go_enter Try.func5, Try.ntmps5
  go_wp2_with fail
  with_reducible refine (words_24 _).mono ?_
  rintro e w1 ⟨rfl, hb⟩
  have hc := Words_ok k n w1 h
  have HO := hid h
  clear h
  go_wp2_with fail
  with_reducible refine hc.mono ?_
  rintro e w2 ⟨rfl, hb2⟩
  have HB := hid (bl_then hb hb2)
  clear hb hb2 hc
  generalize Rm.lw k n = x0 at *
  go_wp2
  go_loopw [9, 10, 11] (fun x z y wr => ∃ (j : Nat) (r : Int) (c : Nat), 1 ≤ j ∧ j ≤ n + 1 ∧ x = .int .i64 r ∧ z = .int .i64 (c : Int) ∧ y = .int .i64 (j : Int) ∧ Hid (r = Rm.wt k n j) ∧ Hid (c * k = k ^ j) ∧ c ≤ 512 ∧ Hid (Below w.heap.size w wr)) (fun _ _ y _ => n + 1 - (intOf y).toNat)
  case atStart => exact ⟨1, 0, 1, by omega, by omega, rfl, rfl, rfl, hid (by rw [Rm.wt_one]), hid (by simp), by omega, HB⟩
  case round =>
    clear HB
    obtain ⟨j, r, c, hj1, hjn, rfl, rfl, rfl, HJ, HC, hc, HB⟩ := hrel
    by_cases hlj : j ≤ n
    · have hlj' : (j : Int) ≤ (n : Int) := by omega
      obtain ⟨c', hc'⟩ : ∃ c', c' = c * k := ⟨_, rfl⟩
      have ec : (c : Int) * (k : Int) = (c' : Int) := by rw [hc']; simp
      have hcz : c' = k ^ j := by rw [hc', HC.out]
      have hcb : c' ≤ 512 := by rw [hcz]; exact Nat.le_trans (Rm.pow_mono hk1 hlj) HO.out.few
      have hwc : IntKind.i64.wrap (c' : Int) = (c' : Int) := i64_of (by omega) (by omega)
      have HC' := hid (show c' * k = k ^ (j + 1) by rw [hcz, pow_next])
      clear hc' hcz HC
      have hrb := Rm.wt_bound HO.out (m := j) (by omega)
      rw [← HJ.out] at hrb
      have hlb := Rm.lw_bound HO.out (m := j) hlj
      have hpb := Rm.pc_all HO.out (m := j) hlj
      rw [← Rm.lw_mul HO.out hlj] at hpb
      have hz : ((j : Int) == 0) = false := beq_eq_false_iff_ne.2 (by omega)
      have hz' : (j : Int) ≠ 0 := by omega
      obtain ⟨m1, m2⟩ := mod_eq n j
      obtain ⟨t, ht⟩ : ∃ t, t = n % j := ⟨_, rfl⟩
      have htb : t < j := by rw [ht]; exact Nat.mod_lt _ (by omega)
      rw [← ht] at m1 m2
      have HT := hid ht
      clear ht
      have hwt : IntKind.i64.wrap (t : Int) = (t : Int) := i64_of (by omega) (by omega)
      by_cases ht0 : t = 0
      · have e0 : ((t : Int) == 0) = true := by rw [ht0]; rfl
        have HT0 := hid ht0
        clear ht0
        have hcw := fun W => Words_ok k j W (HO.out.less hj1 hlj)
        obtain ⟨q, hq⟩ : ∃ q, q = Rm.lw k j := ⟨_, rfl⟩
        obtain ⟨v, hv⟩ : ∃ v, v = (j : Int) * Rm.lw k j := ⟨_, rfl⟩
        rw [← hv] at hpb
        have hjq : (j : Int) * q = v := by rw [hv, hq]
        rw [← hq] at hcw hlb
        have HV := hid hv
        clear hq hv
        have hwv : IntKind.i64.wrap v = v := i64_of (by omega) (by omega)
        have hw : IntKind.i64.wrap (r + v) = r + v := i64_of (by omega) (by omega)
        have dq : decide (q < 0) = false := decide_eq_false (by omega)
        have hpb' := hpb.2.1
        clear hpb
        go_wp2_with fail
        with_reducible refine (hcw _).mono ?_
        rintro e w3 ⟨rfl, hb3⟩
        have HB3 := hid (bl_then HB.out hb3)
        clear hb3 HB hcw
        go_wp2
        go_roundw
        case measure => simp [intOf]; omega
        case rel =>
          refine ⟨j + 1, r + v, c', by omega, by omega, by trivial, by trivial, by go_num, hid ?_, HC', hcb, HB3⟩
          rw [Rm.wt_step, if_pos (by rw [← HT.out]; exact HT0.out), HJ.out, HV.out]
      · have e0 : ((t : Int) == 0) = false := beq_eq_false_iff_ne.2 (by omega)
        have HT0 := hid ht0
        clear ht0 hpb
        go_wp2
        go_roundw
        case measure => simp [intOf]; omega
        case rel =>
          refine ⟨j + 1, r, c', by omega, by omega, by trivial, by trivial, by go_num, hid ?_, HC', hcb, HB⟩
          rw [Rm.wt_step, if_neg (by rw [← HT.out]; exact HT0.out), HJ.out]
    · have dl : decide ((j : Int) ≤ (n : Int)) = false := decide_eq_false (by omega)
      have hr : r = (c : Int) := by
        have hjn' : j = n + 1 := by omega
        rw [HJ.out, hjn', Rm.wt_end HO.out]
        have h1 := HC.out
        rw [hjn', pow_next] at h1
        rw [Nat.eq_of_mul_eq_mul_right (by omega) h1]
      subst hr
      clear HJ HC
      go_wp2
      go_ret
      exact ⟨rfl, HB.out⟩
theorem witt_walk (k n : Int) (_ : (Lit.int .i64 k).wf = true) (_ : (Lit.int .i64 n).wf = true) (w : World) :
    Calls Try.prog 5 #[.int .i64 k, .int .i64 n] w fun e w' => e = .returned (.bool true) ∧ Below w.heap.size w w' := by
  by_cases h : ringErr k n = 0
  · obtain ⟨K, N, rfl, rfl, hO⟩ := ringErr_ok h
    exact witt_ok K N w hO
  · exact witt_err k n w h
end Go.Proofs.Ytiphclgafhbplaa
