
/-
quillkeep.DiffMakes: whatever two texts: it answers true.
-/
import Derived.Test.YtejcijlmpiiffaaDiffs
namespace Go.Proofs.Ytejcijlmpiiffaa
open Go.RowKit

set_option maxHeartbeats 2000000 in
theorem diffMakes_walk (s t : ByteArray) (_ : s.size ≤ maxLen) (_ : t.size ≤ maxLen) (w : World) :
    Calls Try.prog 4 #[.string s, .string t] w fun e w' => e = .returned (.bool true) ∧ Below w.heap.size w w' := by
  go_enter Try.func4, Try.ntmps4
  go_wp2_with fail
  with_reducible refine (diffs_ok _).mono ?_
  rintro e w1 ⟨rfl, hb1⟩
  have HB := hid hb1
  clear hb1
  go_wp2_with fail
  with_reducible refine (Make_any s t _).mono ?_
  rintro e w2 ⟨A, c, M, x, rfl, hMc, hm, hr, hb2⟩
  have HB := hid (bl_then HB.out hb2)
  have HM := hid hm
  have HR := hid hr
  clear hm hr hb2
  go_wp2_with fail
  with_reducible refine (Cost_any s t _).mono ?_
  rintro e w3 ⟨rfl, hb2⟩
  have HB := hid (bl_then HB.out hb2)
  have HR := hid (HR.out.keep hb2)
  clear hb2
  rcases HM.out with ⟨h, rfl, rfl⟩ | ⟨h, h20, rfl, rfl⟩ | ⟨h, h20, rfl, G, q, hs, hdst, htot⟩
  · rw [fv_bad h, fe_bad h]
    clear HM HR h
    go_wp2
    go_ret
    exact ⟨rfl, HB.out⟩
  · rw [fv_ok h.1 h.2, fe_ok h.1 h.2]
    obtain ⟨d, hd⟩ : ∃ d, d = Df.df (lst s) (lst t) := ⟨_, rfl⟩
    rw [← hd] at h20 ⊢
    have hgt : decide ((20 : Int) < (d : Int)) = true := decide_eq_true (by omega)
    have hgt2 : decide (20 < d) = true := decide_eq_true h20
    clear HM HR h hd
    go_wp2
    go_ret
    exact ⟨rfl, HB.out⟩
  · rw [fv_ok h.1 h.2, fe_ok h.1 h.2]
    have hsm : s.size ≤ maxLen := Nat.le_trans h.1 (by decide)
    have hMz : M.length ≤ maxLen := Nat.le_trans (scr_len hs) (by decide)
    obtain ⟨d, hd⟩ : ∃ d, d = Df.df (lst s) (lst t) := ⟨_, rfl⟩
    rw [← hd] at h20 htot ⊢
    obtain ⟨n, hn⟩ : ∃ n, n = M.length := ⟨_, rfl⟩
    obtain ⟨g, hg⟩ : ∃ g, g = fun k => M.getD k Es.none_ := ⟨_, rfl⟩
    have hel : el g n = M := by rw [hg, hn]; exact el_of M
    have hsc : Es.Scr (lst s) (el g n) G q := by rw [hel]; exact hs
    have hwf : ∀ k, k < n → EvWf (g k) := by rw [hg, hn]; exact scr_wf hs
    have HWF := hid hwf
    have HSC := hid hsc
    have HBD := hid (scr_tots hsc)
    have HTO : Hid (Df.tot (el g n) = (d : Int)) := by show _ = _; rw [hel]; exact htot
    have HDS : Hid (mkS (Es.dst G q) = t) := by show _ = _; rw [hdst, mk_lst]
    have HSM := hid hsm
    rw [← hn] at hMz hMc HR ⊢
    rw [← hg] at HR
    have hn20 : n ≤ 20 := (scr_small hsc).1
    have HMZ := hid hMz
    clear HM hsm hMz hs hdst htot hd hn hg hel hsc hwf
    go_wp2_with fail
    with_reducible refine (Apply_any s _ HR.out HWF.out HMZ.out HSM.out).mono ?_
    rintro e w4 ⟨u, x, rfl, ha, hb2⟩
    obtain ⟨rfl, hu⟩ := ha.ok HSC.out
    rw [HDS.out] at hu
    subst hu
    have HB := hid (bl_then HB.out hb2)
    have HR := hid (HR.out.keep hb2)
    have huu : (u.toList == u.toList) = true := by simp
    clear ha hb2
    go_wp2
    go_loopw [7, 52] (fun v x wr => ∃ k : Nat, ∃ z : Int, k ≤ n ∧ x = .int .i64 (k : Int) ∧ v = .int .i64 z ∧ Hid (z = (d : Int) - Df.tot (el g k)) ∧ Hid (Below w4.heap.size w4 wr)) (fun _ x _ => n - (intOf x).toNat)
    case atStart => exact ⟨0, (d : Int), by omega, rfl, rfl, by show _ = _; simp [el, Df.tot], Below.refl _ _⟩
    case round =>
      obtain ⟨k, z, hk, rfl, rfl, HZ, HW⟩ := hrel
      by_cases hkn : k < n
      · obtain ⟨b, o, rfl, hlt, c0, c1, c2⟩ := (HR.out.keep HW.out) k hkn
        have hkn' : (k : Int) < (n : Int) := by omega
        obtain ⟨hb0, hb1, hb2⟩ := HBD.out k hkn
        have hts := tot_small HBD.out k hk
        have hte := tot_el g k
        have hz := HZ.out
        obtain ⟨y, hy⟩ : ∃ y, y = g k := ⟨_, rfl⟩
        rw [← hy] at c0 c1 c2 hb0 hb1 hb2 hte
        obtain ⟨yd, hyd⟩ := Int.eq_ofNat_of_zero_le hb0
        have HZ2 : Hid (z - ((yd : Int) + (y.s.size : Int)) = (d : Int) - Df.tot (el g (k + 1))) := by show _ = _; rw [hte, hyd]; omega
        have hzb : -50000 ≤ z ∧ z ≤ 50000 := by omega
        rw [hyd] at c1 hb1
        have hw1 : IntKind.i64.wrap ((yd : Int) + (y.s.size : Int)) = (yd : Int) + (y.s.size : Int) := IntWalk.i64_in _ (by omega)
        have hw2 : IntKind.i64.wrap (z - ((yd : Int) + (y.s.size : Int))) = z - ((yd : Int) + (y.s.size : Int)) := IntWalk.i64_in _ (by omega)
        have HB2 := hid (HW.out.alloc HW.out.size (.cells #[.int .i64 y.a, .int .i64 (yd : Int), .string y.s] 33))
        obtain ⟨hca0, hca1, hca2⟩ := ev_new wr ⟨y.a, (yd : Int), y.s⟩ 33
        try simp only at hca0 hca1 hca2
        clear HZ hz hts hte hy hyd hb0
        go_wp2
        go_roundw
        case rel => exact ⟨k + 1, _, by omega, by go_num, rfl, HZ2, HB2⟩
        case measure => simp [intOf]; omega
      · obtain rfl : k = n := by omega
        have hkd : decide ((k : Int) < (k : Int)) = false := decide_eq_false (by omega)
        have hz0 : z = 0 := by rw [HZ.out, HTO.out]; omega
        subst hz0
        have HB5 := hid (bl_then HB.out HW.out)
        clear HZ HW
        go_wp2_with fail
        with_reducible refine (good_ok _ 2 2 _ (by decide) (two_zeros _ _)).mono ?_
        rintro e w6 ⟨rfl, rfl⟩
        have HB6 := hid (HB5.out.alloc HB5.out.size (.cells #[.int .i64 0, .int .i64 0] 23))
        go_wp2
        go_ret
        exact ⟨rfl, HB6.out⟩
end Go.Proofs.Ytejcijlmpiiffaa
