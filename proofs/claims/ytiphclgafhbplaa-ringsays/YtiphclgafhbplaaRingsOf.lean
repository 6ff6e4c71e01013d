/-
The contract of quillref.RingsOf.
-/
import Derived.Test.YtiphclgafhbplaaRingsMath
import Derived.Test.YtiphclgafhbplaaRPub
namespace Go.Proofs.Ytiphclgafhbplaa
open Go.RowKit

theorem turnOf (d : List Nat) (w : World) (hd : ∀ x, x ∈ d → x < 100) (h0 : 0 < d.length) (hl : d.length ≤ 1000) :
    Calls Try.prog 18 #[.string (sd d)] w fun e w' => (∃ t i, e = .returned (.tuple #[.string t, .int .i64 i]) ∧ (t = sd d ↔ Rm.neckD d = true)) ∧ Below w.heap.size w w' := by
  have hs := sd_size d
  obtain ⟨i, hi, hL⟩ := least_is (s := sd d) (by omega)
  refine (leastTurn_any (sd d) i w (by omega) hi hL).mono ?_
  rintro e w1 ⟨rfl, hb⟩
  exact ⟨⟨_, _, rfl, neck_sd hd (by omega) hL⟩, hb⟩
theorem lynOf (d : List Nat) (w : World) (hd : ∀ x, x ∈ d → x < 100) (h0 : 0 < d.length) (hl : d.length ≤ 1000) :
    Calls Try.prog 19 #[.string (sd d)] w fun e w' => e = .returned (.bool (Rm.lynD d)) ∧ Drew w w' := by
  refine (refLyndon (sd d) w (by rw [sd_size]; exact hl)).mono ?_
  rintro e w1 ⟨⟨b, hb, rfl⟩, hd1⟩
  rw [lyn_sd hd h0] at hb
  refine ⟨?_, hd1⟩
  congr 2
  cases b <;> cases hx : Rm.lynD d <;> simp [hx] at hb ⊢
set_option maxHeartbeats 1000000 in
theorem ringsOf_ok (k n : Nat) (w : World) (h : Rm.Ok k n) :
    Calls Try.prog 12 #[.int .i64 (k : Int), .int .i64 (n : Int)] w fun e w' => e = .returned (.tuple #[.int .i64 (Rm.rg k n (n + 1)), .int .i64 (Rm.lw k n)]) ∧ Below w.heap.size w w' := by
  have hn1 := h.n1
  have hn5 := h.n5
  have hk8 := h.k8
  have hall := Rm.rings_all h
  have HALL := hid hall
  clear hall
  go_enter Try.func12, Try.ntmps12
  go_wp2_with fail
  with_reducible refine (allWords_ok k n _ h).mono ?_
  rintro e w1 ⟨⟨vv, rfl, hown⟩, hb⟩
  obtain ⟨A, cp, hv, hcp, hrow⟩ := hown.row
  subst hv
  have hlen := Rm.allW_len k n
  have hfew := h.few
  have HWM := hid (Rm.allW_word k n)
  obtain ⟨W, hW⟩ : ∃ W, W = Rm.allW k n := ⟨_, rfl⟩
  rw [← hW] at hlen hrow HALL HWM
  rw [← hW]
  clear hW hown hcp h
  rw [List.length_map] at hrow ⊢
  obtain ⟨M, hM⟩ : ∃ M, M = W.length := ⟨_, rfl⟩
  rw [← hM] at hrow ⊢
  have hM5 : M ≤ 512 := by omega
  have HM := hid hM
  have HROW := hid (hrow.congr (g' := fun j => sd (W.getD j [])) fun j hj => by
    have hj' : j < W.length := by omega
    rw [getD_lt (by rw [List.length_map]; exact hj'), getD_lt hj', List.getElem_map])
  have HB := hid hb
  clear hrow hM hlen hb hfew
  go_wp2
  go_loopw [6, 7, 16] (fun x z y wr => ∃ j c e : Nat, j ≤ M ∧ c ≤ j ∧ e ≤ j ∧ x = .int .i64 (c : Int) ∧ z = .int .i64 (e : Int) ∧ y = .int .i64 (j : Int) ∧ Hid (c = Rm.cntB Rm.neckD (W.take j)) ∧ Hid (e = Rm.cntB Rm.lynD (W.take j)) ∧ Hid (Below w1.heap.size w1 wr)) (fun _ _ y _ => M - (intOf y).toNat)
  case atStart => exact ⟨0, 0, 0, by omega, by omega, by omega, rfl, rfl, rfl, hid rfl, hid rfl, hid (Below.refl _ _)⟩
  case round =>
    obtain ⟨j, c, e, hj, hcj, hej, rfl, rfl, rfl, HC, HE, HBN⟩ := hrel
    by_cases hjM : j < M
    · have hjM' : (j : Int) < (M : Int) := by omega
      obtain ⟨b, o, rfl, hblt, hcell⟩ := (HROW.out.keep HBN.out) j hjM
      obtain ⟨d, hd⟩ : ∃ d, d = W.getD j [] := ⟨_, rfl⟩
      try simp only at hcell
      rw [← hd] at hcell
      have hjl : j < W.length := by rw [← HM.out]; exact hjM
      have hdm : d ∈ W := by rw [hd, getD_lt hjl]; exact List.getElem_mem hjl
      have hdl := (HWM.out d hdm).1
      have HDX := hid (fun x hx => Nat.lt_of_lt_of_le ((HWM.out d hdm).2 x hx) (show k ≤ 100 by omega))
      have HC2 := hid (Rm.cntB_take Rm.neckD hjl)
      have HE2 := hid (Rm.cntB_take Rm.lynD hjl)
      rw [← hd, ← HC.out] at HC2
      rw [← hd, ← HE.out] at HE2
      clear hd hdm HC HE
      go_wp2_with fail
      with_reducible refine (turnOf d _ HDX.out (by omega) (by omega)).mono ?_
      rintro e3 w3 ⟨⟨t, i, rfl, hti⟩, hb3⟩
      have HB3 := hid (bl_then HBN.out hb3)
      have HTI := hid hti
      clear hb3 hti HBN hcell
      by_cases hx : Rm.neckD d = true
      · have hq : (t.toList == (sd d).toList) = true := same_yes (HTI.out.2 hx)
        rw [hx] at HC2
        clear HTI hx
        go_wp2_with fail
        with_reducible refine (lynOf d _ HDX.out (by omega) (by omega)).mono ?_
        cases hy : Rm.lynD d
        · rw [hy] at HE2
          rintro e4 w4 ⟨rfl, hd4⟩
          have HB4 := hid (HB3.out.trans (hd4.below _))
          clear hd4 hy HB3
          go_wp2
          go_roundw
          case measure => simp [intOf]; omega
          case rel => exact ⟨j + 1, c + 1, e, by omega, by omega, by omega, by go_num, by trivial, by go_num, hid HC2.out.symm, hid HE2.out.symm, HB4⟩
        · rw [hy] at HE2
          rintro e4 w4 ⟨rfl, hd4⟩
          have HB4 := hid (HB3.out.trans (hd4.below _))
          clear hd4 hy HB3
          go_wp2
          go_roundw
          case measure => simp [intOf]; omega
          case rel => exact ⟨j + 1, c + 1, e + 1, by omega, by omega, by omega, by go_num, by go_num, by go_num, hid HC2.out.symm, hid HE2.out.symm, HB4⟩
      · have hq : (t.toList == (sd d).toList) = false := same_no fun e => hx (HTI.out.1 e)
        rw [Bool.eq_false_iff.2 hx] at HC2
        clear HTI hx
        go_wp2_with fail
        with_reducible refine (lynOf d _ HDX.out (by omega) (by omega)).mono ?_
        cases hy : Rm.lynD d
        · rw [hy] at HE2
          rintro e4 w4 ⟨rfl, hd4⟩
          have HB4 := hid (HB3.out.trans (hd4.below _))
          clear hd4 hy HB3
          go_wp2
          go_roundw
          case measure => simp [intOf]; omega
          case rel => exact ⟨j + 1, c, e, by omega, by omega, by omega, by trivial, by trivial, by go_num, hid HC2.out.symm, hid HE2.out.symm, HB4⟩
        · rw [hy] at HE2
          rintro e4 w4 ⟨rfl, hd4⟩
          have HB4 := hid (HB3.out.trans (hd4.below _))
          clear hd4 hy HB3
          go_wp2
          go_roundw
          case measure => simp [intOf]; omega
          case rel => exact ⟨j + 1, c, e + 1, by omega, by omega, by omega, by trivial, by go_num, by go_num, hid HC2.out.symm, hid HE2.out.symm, HB4⟩
    · have dl : decide ((j : Int) < (M : Int)) = false := decide_eq_false (by omega)
      have hc : (c : Int) = Rm.rg k n (n + 1) := by
        rw [HC.out, List.take_of_length_le (by rw [← HM.out]; omega)]
        exact HALL.out.1
      have he : (e : Int) = Rm.lw k n := by
        rw [HE.out, List.take_of_length_le (by rw [← HM.out]; omega)]
        exact HALL.out.2
      have H1 := hid hc
      have H2 := hid he
      have HBE := hid (bl_then HB.out HBN.out)
      clear hc he HC HE HALL HBN
      go_wp2
      go_ret2
      rw [← H1.out, ← H2.out]
      exact ⟨rfl, HBE.out⟩
end Go.Proofs.Ytiphclgafhbplaa
