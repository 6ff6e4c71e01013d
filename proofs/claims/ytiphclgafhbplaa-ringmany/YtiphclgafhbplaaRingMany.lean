/-
The walk of quillkeep.RingMany: for every k and n it returns true.
-/
import Derived.Test.YtiphclgafhbplaaRPub
namespace Go.Proofs.Ytiphclgafhbplaa
open Go.RowKit

theorem ok_23 : Rm.Ok 2 3 := ⟨by decide, by decide, by decide, by decide, by decide⟩
theorem rings_yes (w : World) : Calls Try.prog 14 #[] w fun e w' => e = .returned (.bool true) ∧ Below w.heap.size w w' := by
  have hc := Rings_ok 2 3 w ok_23
  rw [show Rm.rg 2 3 (3 + 1) = 4 by decide +kernel, show ((2 : Nat) : Int) = 2 from rfl, show ((3 : Nat) : Int) = 3 from rfl] at hc
  go_enter Try.func14, Try.ntmps14
  go_wp2_with fail
  with_reducible refine hc.mono ?_
  rintro e w1 ⟨rfl, hb⟩
  go_wp2
  go_ret
  exact ⟨rfl, hb⟩
theorem many_err (k n : Int) (w : World) (h : ringErr k n ≠ 0) :
    Calls Try.prog 4 #[.int .i64 k, .int .i64 n] w fun e w' => e = .returned (.bool true) ∧ Below w.heap.size w w' := by
  go_enter Try.func4, Try.ntmps4
  go_wp2_with fail
  with_reducible refine (rings_yes _).mono ?_
  rintro e w1 ⟨rfl, hb⟩
  have hc := Rings_err k n w1 h
  obtain ⟨r, hr⟩ : ∃ r, r = ringErr k n := ⟨_, rfl⟩
  rw [← hr] at h hc
  have hne : (r == 0) = false := beq_eq_false_iff_ne.2 h
  have hne2 : (r != 0) = true := bne_iff_ne.2 h
  clear hr
  go_wp2_with fail
  with_reducible refine hc.mono ?_
  rintro e w2 ⟨rfl, rfl⟩
  go_wp2
  go_ret
  exact ⟨rfl, hb⟩
set_option maxHeartbeats 400000 in
theorem many_ok (k n : Nat) (w : World) (h : Rm.Ok k n) :
    Calls Try.prog 4 #[.int .i64 (k : Int), .int .i64 (n : Int)] w fun e w' => e = .returned (.bool true) ∧ Below w.heap.size w w' := by
  have hn1 := h.n1
  have hn5 := h.n5
  go_enter Try.func4, Try.ntmps4
  go_wp2_with fail
  with_reducible refine (rings_yes _).mono ?_
  rintro e w1 ⟨rfl, hb⟩
  have hc := Rings_ok k n w1 h
  have HO := hid h
  clear h
  obtain ⟨a, ha⟩ : ∃ a, a = Rm.rg k n (n + 1) := ⟨_, rfl⟩
  rw [← ha] at hc
  have HA := hid ha
  clear ha
  go_wp2_with fail
  with_reducible refine hc.mono ?_
  rintro e w2 ⟨rfl, hb2⟩
  have HB := hid (bl_then hb hb2)
  clear hb hb2 hc
  go_wp2
  go_loopw [7, 8] (fun x y wr => ∃ (j : Nat) (r : Int), 1 ≤ j ∧ j ≤ n + 1 ∧ x = .int .i64 r ∧ y = .int .i64 (j : Int) ∧ Hid (r = Rm.rg k n j) ∧ Hid (Below w.heap.size w wr)) (fun _ y _ => n + 1 - (intOf y).toNat)
  case atStart => exact ⟨1, 0, by omega, by omega, rfl, rfl, hid (by rw [Rm.rg_one]), HB⟩
  case round =>
    clear HB
    obtain ⟨j, r, hj1, hjn, rfl, rfl, HJ, HB⟩ := hrel
    by_cases hlj : j ≤ n
    · have hlj' : (j : Int) ≤ (n : Int) := by omega
      have hrb := Rm.rg_bound HO.out (m := j) (by omega)
      rw [← HJ.out] at hrb
      have hlb := Rm.lw_bound HO.out (m := j) hlj
      have hz : ((j : Int) == 0) = false := beq_eq_false_iff_ne.2 (by omega)
      have hz' : (j : Int) ≠ 0 := by omega
      obtain ⟨m1, m2⟩ := mod_eq n j
      obtain ⟨t, ht⟩ : ∃ t, t = n % j := ⟨_, rfl⟩
      have htb : t < j := by rw [ht]; exact Nat.mod_lt _ (by omega)
      rw [← ht] at m1 m2
      have HT := hid ht
      clear ht
      have hwt : IntKind.i64.wrap (t : Int) = (t : Int) := i64_of (by omega) (by omega)
      by_cases ht0 : t = 0
      · have e0 : ((t : Int) == 0) = true := by rw [ht0]; rfl
        have HT0 := hid ht0
        clear ht0
        have hc := fun W => Words_ok k j W (HO.out.less hj1 hlj)
        obtain ⟨q, hq⟩ : ∃ q, q = Rm.lw k j := ⟨_, rfl⟩
        rw [← hq] at hc hlb
        have HQ := hid hq
        clear hq
        have hw : IntKind.i64.wrap (r + q) = r + q := i64_of (by omega) (by omega)
        go_wp2_with fail
        with_reducible refine (hc _).mono ?_
        rintro e w3 ⟨rfl, hb3⟩
        have HB3 := hid (bl_then HB.out hb3)
        clear hb3 HB hc
        go_wp2
        go_roundw
        case measure => simp [intOf]; omega
        case rel =>
          refine ⟨j + 1, r + q, by omega, by omega, by trivial, by go_num, hid ?_, HB3⟩
          rw [Rm.rg_step, if_pos (by rw [← HT.out]; exact HT0.out), HJ.out, HQ.out]
      · have e0 : ((t : Int) == 0) = false := beq_eq_false_iff_ne.2 (by omega)
        have HT0 := hid ht0
        clear ht0
        go_wp2
        go_roundw
        case measure => simp [intOf]; omega
        case rel =>
          refine ⟨j + 1, r, by omega, by omega, by trivial, by go_num, hid ?_, HB⟩
          rw [Rm.rg_step, if_neg (by rw [← HT.out]; exact HT0.out), HJ.out]
    · have dl : decide ((j : Int) ≤ (n : Int)) = false := decide_eq_false (by omega)
      have hr : r = a := by rw [HJ.out, HA.out, show j = n + 1 by omega]
      subst hr
      go_wp2
      go_ret
      exact ⟨rfl, HB.out⟩
theorem many_walk (k n : Int) (_ : (Lit.int .i64 k).wf = true) (_ : (Lit.int .i64 n).wf = true) (w : World) :
    Calls Try.prog 4 #[.int .i64 k, .int .i64 n] w fun e w' => e = .returned (.bool true) ∧ Below w.heap.size w w' := by
  by_cases h : ringErr k n = 0
  · obtain ⟨K, N, rfl, rfl, hO⟩ := ringErr_ok h
    exact many_ok K N w hO
  · exact many_err k n w h
end Go.Proofs.Ytiphclgafhbplaa
