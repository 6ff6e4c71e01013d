/-
The contracts of ring.Rings and ring.Words.
-/
import Derived.Test.YtiphclgafhbplaaRCounts
namespace Go.Proofs.Ytiphclgafhbplaa
open Go.RowKit

theorem mod_eq (n d : Nat) : (n : Int) % (d : Int) = ((n % d : Nat) : Int) ∧ Int.tmod (n : Int) (d : Int) = ((n % d : Nat) : Int) := by
  refine ⟨by simp, ?_⟩
  rw [Int.tmod_eq_emod_of_nonneg (by omega)]
  simp
theorem Rings_err (k n : Int) (w : World) (h : ringErr k n ≠ 0) :
    Calls Try.prog 7 #[.int .i64 k, .int .i64 n] w fun e w' => e = .returned (.tuple #[.int .i64 0, .int .i64 (ringErr k n)]) ∧ w = w' := by
  obtain ⟨r, hr⟩ : ∃ r, r = ringErr k n := ⟨_, rfl⟩
  have hc := RCheck_any k n w
  rw [← hr] at h hc ⊢
  have hne : (r == 0) = false := beq_eq_false_iff_ne.2 h
  have hne2 : (r != 0) = true := bne_iff_ne.2 h
  clear hr
  go_enter Try.func7, Try.ntmps7
  go_wp2_with fail
  with_reducible refine hc.mono ?_
  rintro e w1 ⟨rfl, rfl⟩
  go_wp2
  go_ret2
  exact ⟨rfl, rfl⟩
theorem Words_err (k n : Int) (w : World) (h : ringErr k n ≠ 0) :
    Calls Try.prog 8 #[.int .i64 k, .int .i64 n] w fun e w' => e = .returned (.tuple #[.int .i64 0, .int .i64 (ringErr k n)]) ∧ w = w' := by
  obtain ⟨r, hr⟩ : ∃ r, r = ringErr k n := ⟨_, rfl⟩
  have hc := RCheck_any k n w
  rw [← hr] at h hc ⊢
  have hne : (r == 0) = false := beq_eq_false_iff_ne.2 h
  have hne2 : (r != 0) = true := bne_iff_ne.2 h
  clear hr
  go_enter Try.func8, Try.ntmps8
  go_wp2_with fail
  with_reducible refine hc.mono ?_
  rintro e w1 ⟨rfl, rfl⟩
  go_wp2
  go_ret2
  exact ⟨rfl, rfl⟩
theorem Words_ok (k n : Nat) (w : World) (h : Rm.Ok k n) :
    Calls Try.prog 8 #[.int .i64 (k : Int), .int .i64 (n : Int)] w fun e w' => e = .returned (.tuple #[.int .i64 (Rm.lw k n), .int .i64 0]) ∧ Below w.heap.size w w' := by
  have hn5 := h.n5
  go_enter Try.func8, Try.ntmps8
  go_wp2_with fail
  with_reducible refine (RCheck_ok k n _ h).mono ?_
  rintro e w1 ⟨rfl, rfl⟩
  go_wp2_with fail
  with_reducible refine (wordCounts_ok k n _ h).mono ?_
  rintro e w2 ⟨A, c, rfl, hrow, hb⟩
  obtain ⟨b, o, rfl, hlt, hcell⟩ := hrow n (by omega)
  have hlen : (n : Int) < ((n + 1 : Nat) : Int) := by omega
  have hlen2 : (n : Int) < (n : Int) + 1 := by omega
  obtain ⟨q, hq⟩ : ∃ q, q = Rm.lw k n := ⟨_, rfl⟩
  try simp only at hcell
  rw [← hq] at hcell
  have HB := hid hb
  have HQ := hid hq
  clear hrow hb hq h
  go_wp2
  go_ret2
  rw [← HQ.out]
  exact ⟨rfl, HB.out⟩
set_option maxHeartbeats 400000 in
theorem Rings_ok (k n : Nat) (w : World) (h : Rm.Ok k n) :
    Calls Try.prog 7 #[.int .i64 (k : Int), .int .i64 (n : Int)] w fun e w' => e = .returned (.tuple #[.int .i64 (Rm.rg k n (n + 1)), .int .i64 0]) ∧ Below w.heap.size w w' := by
  have hn1 := h.n1
  have hn5 := h.n5
  go_enter Try.func7, Try.ntmps7
  go_wp2_with fail
  with_reducible refine (RCheck_ok k n _ h).mono ?_
  rintro e w1 ⟨rfl, rfl⟩
  go_wp2_with fail
  with_reducible refine (wordCounts_ok k n _ h).mono ?_
  rintro e w2 ⟨A, c, rfl, hrow, hb⟩
  obtain ⟨b, o, rfl, hlt, _⟩ := hrow 0 (by omega)
  have HR : Hid (∀ j, j < n + 1 → w2.cell? ⟨b, o + j, none⟩ = some (.int .i64 (Rm.lw k j))) := by
    intro j hj
    obtain ⟨b', o', e, _, hc⟩ := hrow j hj
    injection e with e1
    injection e1 with e2 e3
    subst e2 e3
    exact hc
  have HB := hid hb
  have HO := hid h
  clear hrow hb h
  obtain ⟨N, hN⟩ : ∃ N, N = n + 1 := ⟨_, rfl⟩
  rw [← hN] at HR ⊢
  have HN := hid hN
  have hN5 : N ≤ 513 := by omega
  have hnN : n < N := by omega
  clear hN
  go_wp2
  go_loopw [7, 20] (fun x y wr => ∃ (j : Nat) (r : Int), j ≤ N ∧ x = .int .i64 r ∧ y = .int .i64 (j : Int) ∧ Hid (r = Rm.rg k n j) ∧ wr = w2) (fun _ y _ => N - (intOf y).toNat)
  case atStart => exact ⟨0, 0, by omega, rfl, rfl, hid rfl, rfl⟩
  case round =>
    obtain ⟨j, r, hj, rfl, rfl, HJ, rfl⟩ := hrel
    by_cases hlj : j < N
    · have hlj' : (j : Int) < (N : Int) := by omega
      have hc := HR.out j hlj
      have hrb := Rm.rg_bound HO.out (m := j) (by have := HN.out; omega)
      rw [← HJ.out] at hrb
      have hlb := Rm.lw_bound HO.out (m := j) (by have := HN.out; omega)
      obtain ⟨q, hq⟩ : ∃ q, q = Rm.lw k j := ⟨_, rfl⟩
      rw [← hq] at hc hlb
      have HQ := hid hq
      clear hq
      have hw : IntKind.i64.wrap (r + q) = r + q := i64_of (by omega) (by omega)
      by_cases hj0 : 0 < j
      · have d0 : decide ((0 : Int) < (j : Int)) = true := decide_eq_true (by omega)
        have hz : ((j : Int) == 0) = false := beq_eq_false_iff_ne.2 (by omega)
        have hz' : (j : Int) ≠ 0 := by omega
        obtain ⟨m1, m2⟩ := mod_eq n j
        obtain ⟨t, ht⟩ : ∃ t, t = n % j := ⟨_, rfl⟩
        have htb : t < j := by rw [ht]; exact Nat.mod_lt _ hj0
        rw [← ht] at m1 m2
        have HT := hid ht
        clear ht
        have hwt : IntKind.i64.wrap (t : Int) = (t : Int) := i64_of (by omega) (by omega)
        by_cases ht0 : t = 0
        · have e0 : ((t : Int) == 0) = true := by rw [ht0]; rfl
          have HT0 := hid ht0
          clear ht0
          go_wp2
          go_roundw
          case measure => simp [intOf]; omega
          case rel =>
            refine ⟨j + 1, r + q, by omega, by trivial, by go_num, hid ?_, by trivial⟩
            rw [Rm.rg_step, if_pos (by rw [← HT.out]; exact HT0.out), HJ.out, HQ.out]
        · have e0 : ((t : Int) == 0) = false := beq_eq_false_iff_ne.2 (by omega)
          have HT0 := hid ht0
          clear ht0
          go_wp2
          go_roundw
          case measure => simp [intOf]; omega
          case rel =>
            refine ⟨j + 1, r, by omega, by trivial, by go_num, hid ?_, by trivial⟩
            rw [Rm.rg_step, if_neg (by rw [← HT.out]; exact HT0.out), HJ.out]
      · obtain rfl : j = 0 := by omega
        rw [Nat.add_zero] at hc
        go_wp2
        go_roundw
        case measure => simp [intOf]; omega
        case rel =>
          refine ⟨1, r, by omega, by trivial, by go_num, hid ?_, by trivial⟩
          rw [HJ.out, Rm.rg_one, Rm.rg_zero]
    · have dl : decide ((j : Int) < (N : Int)) = false := decide_eq_false (by omega)
      have hr : r = Rm.rg k n N := by rw [HJ.out, show j = N by omega]
      have HH := hid hr
      clear hr HJ
      go_wp2
      go_ret2
      refine ⟨?_, HB.out⟩
      rw [← HN.out, ← HH.out]
      rfl
end Go.Proofs.Ytiphclgafhbplaa
