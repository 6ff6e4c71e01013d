
/-
quilllaw.DiffSays: whatever two texts: it answers true.
-/
import Derived.Test.YtejcijlmpiiffaaDiffs
import Derived.Test.YtejcijlmpiiffaaRefSame
namespace Go.Proofs.Ytejcijlmpiiffaa
open Go.RowKit

set_option maxHeartbeats 4000000 in
theorem diffSays_walk (s t : ByteArray) (_ : s.size ≤ maxLen) (_ : t.size ≤ maxLen) (w : World) :
    Calls Try.prog 3 #[.string s, .string t] w fun e w' => e = .returned (.bool true) ∧ Below w.heap.size w w' := by
  go_enter Try.func3, Try.ntmps3
  go_wp2_with fail
  with_reducible refine (Make_any s t _).mono ?_
  rintro e w2 ⟨A, c, M, x, rfl, hMc, hm, hr, hb2⟩
  have HB := hid hb2
  have HM := hid hm
  have HR := hid hr
  clear hm hr hb2
  go_wp2_with fail
  with_reducible refine (Cost_any s t _).mono ?_
  rintro e w3 ⟨rfl, hb2⟩
  have HB := hid (bl_then HB.out hb2)
  have HR := hid (HR.out.keep hb2)
  clear hb2
  have HB4 := hid (HB.out.alloc HB.out.size (.cells #[.string s, .string t] 9))
  have HR4 : Hid (EvRow (w3.alloc (.cells #[.string s, .string t] 9)) A M.length (fun k => M.getD k Es.none_)) := HR.out.keep (bl_new _ _)
  by_cases h : s.size ≤ 200 ∧ t.size ≤ 200
  · rw [fv_ok h.1 h.2, fe_ok h.1 h.2]
    obtain ⟨d, hd⟩ : ∃ d, d = Df.df (lst s) (lst t) := ⟨_, rfl⟩
    obtain ⟨k0, hk0⟩ : ∃ k, k = Sa.lc (lst s) (lst t) := ⟨_, rfl⟩
    have hdk := df_size s t
    rw [← hd, ← hk0] at hdk
    rw [← hd]
    have HK := hid hk0
    have HD := hid hd
    have hm := HM.out
    unfold MkIs at hm
    rw [← hd] at hm
    have hm : (20 < d ∧ M = [] ∧ x = 11) ∨ (d ≤ 20 ∧ x = 0 ∧ ∃ G q, Es.Scr (lst s) M G q ∧ Es.dst G q = lst t ∧ Df.tot M = (d : Int)) := by
      rcases hm with ⟨h', _⟩ | ⟨_, a, b, c⟩ | ⟨_, a, b, c⟩
      · exact absurd h h'
      · exact .inl ⟨a, b, c⟩
      · exact .inr ⟨a, b, c⟩
    have HM := hid hm
    clear hk0 hd hm HB HR
    go_wp2_with fail
    with_reducible refine (longTwo_ok s t _ _ (two_strings _ _ _ _) h.1 h.2).mono ?_
    rintro e w4 ⟨rfl, rfl⟩
    generalize w3.alloc (.cells #[.string s, .string t] 9) = w4 at *
    go_wp2_with fail
    with_reducible refine (SameOf_ok s t _ h.1 h.2).mono ?_
    rintro e w5 ⟨he, hb2⟩
    rw [← HK.out] at he
    subst he
    have HB := hid (bl_then HB4.out hb2)
    have HR := hid (HR4.out.keep hb2)
    have hw1 : IntKind.i64.wrap ((s.size : Int) + (t.size : Int)) = (s.size : Int) + (t.size : Int) := IntWalk.i64_in _ (by omega)
    have hw2 : IntKind.i64.wrap (2 * (k0 : Int)) = 2 * (k0 : Int) := IntWalk.i64_in _ (by omega)
    have hsub : (s.size : Int) + (t.size : Int) - 2 * (k0 : Int) = (d : Int) := by omega
    have hw3 : IntKind.i64.wrap (d : Int) = (d : Int) := IntWalk.i64_in _ (by omega)
    have hdd : ((d : Int) != (d : Int)) = false := by simp
    clear hb2 HB4 HR4 hdk
    rcases HM.out with ⟨h20, rfl, rfl⟩ | ⟨h20, rfl, G, q, hs, hdst, htot⟩
    · have hgt : decide ((20 : Int) < (d : Int)) = true := decide_eq_true (by omega)
      have hgt2 : decide (20 < d) = true := decide_eq_true h20
      clear HM
      go_wp2
      go_ret
      exact ⟨rfl, HB.out⟩
    · have hgt : decide ((20 : Int) < (d : Int)) = false := decide_eq_false (by omega)
      have hgt2 : decide (20 < d) = false := decide_eq_false (by omega)
      obtain ⟨n, hn⟩ : ∃ n, n = M.length := ⟨_, rfl⟩
      obtain ⟨g, hg⟩ : ∃ g, g = fun k => M.getD k Es.none_ := ⟨_, rfl⟩
      have hel : el g n = M := by rw [hg, hn]; exact el_of M
      have hsc : Es.Scr (lst s) (el g n) G q := by rw [hel]; exact hs
      have HE0 : Hid (Es.eErr ((s.size : Nat) : Int) (el g n) = 0) := by
        have := hsc.err
        rw [lst_len] at this
        exact this
      have HSC := hid hsc
      have HBD := hid (scr_tots hsc)
      have HTO : Hid (Df.tot (el g n) = (d : Int)) := by show _ = _; rw [hel]; exact htot
      have HDS : Hid (mkS (Es.dst G q) = t) := by show _ = _; rw [hdst, mk_lst]
      rw [← hn] at hMc HR ⊢
      rw [← hg] at HR
      have hn20 : n ≤ 20 := (scr_small hsc).1
      have htt : (t.toList == t.toList) = true := by simp
      have hD := fun W (h : EvRow W A n g) => Done_ok (c := c) s W h hsc
      rw [HDS.out] at hD
      have HDO := hid hD
      clear HM hs hdst htot hn hg hel hsc hD
      go_wp2_with fail
      with_reducible refine (EditsErr_any (s.size : Int) _ HR.out).mono ?_
      rintro e w6 ⟨he, hb2⟩
      rw [HE0.out] at he
      subst he
      have HB := hid (bl_then HB.out hb2)
      have HR := hid (HR.out.keep hb2)
      clear hb2
      go_wp2_with fail
      with_reducible refine (HDO.out _ HR.out).mono ?_
      rintro e w7 ⟨rfl, hb2⟩
      have HB := hid (bl_then HB.out hb2)
      have HR := hid (HR.out.keep hb2)
      clear hb2 HDO
      go_wp2
      go_loopw [10, 92] (fun v x wr => ∃ k : Nat, ∃ z : Int, k ≤ n ∧ x = .int .i64 (k : Int) ∧ v = .int .i64 z ∧ Hid (z = (d : Int) - Df.tot (el g k)) ∧ Hid (Below w7.heap.size w7 wr)) (fun _ x _ => n - (intOf x).toNat)
      case atStart => exact ⟨0, (d : Int), by omega, rfl, rfl, by show _ = _; simp [el, Df.tot], Below.refl _ _⟩
      case round =>
        obtain ⟨k, z, hk, rfl, rfl, HZ, HW⟩ := hrel
        by_cases hkn : k < n
        · obtain ⟨b, o, rfl, hlt, c0, c1, c2⟩ := (HR.out.keep HW.out) k hkn
          have hkn' : (k : Int) < (n : Int) := by omega
          obtain ⟨hb0, hb1, hb2⟩ := HBD.out k hkn
          have hts := tot_small HBD.out k hk
          have hte := tot_el g k
          have hz := HZ.out
          obtain ⟨y, hy⟩ : ∃ y, y = g k := ⟨_, rfl⟩
          rw [← hy] at c0 c1 c2 hb0 hb1 hb2 hte
          obtain ⟨yd, hyd⟩ := Int.eq_ofNat_of_zero_le hb0
          have HZ2 : Hid (z - ((yd : Int) + (y.s.size : Int)) = (d : Int) - Df.tot (el g (k + 1))) := by show _ = _; rw [hte, hyd]; omega
          have hzb : -50000 ≤ z ∧ z ≤ 50000 := by omega
          rw [hyd] at c1 hb1
          have hw4 : IntKind.i64.wrap ((yd : Int) + (y.s.size : Int)) = (yd : Int) + (y.s.size : Int) := IntWalk.i64_in _ (by omega)
          have hw5 : IntKind.i64.wrap (z - ((yd : Int) + (y.s.size : Int))) = z - ((yd : Int) + (y.s.size : Int)) := IntWalk.i64_in _ (by omega)
          have HB2 := hid (HW.out.alloc HW.out.size (.cells #[.int .i64 y.a, .int .i64 (yd : Int), .string y.s] 33))
          obtain ⟨hca0, hca1, hca2⟩ := ev_new wr ⟨y.a, (yd : Int), y.s⟩ 33
          try simp only at hca0 hca1 hca2
          clear HZ hz hts hte hy hyd hb0
          go_wp2
          go_roundw
          case rel => exact ⟨k + 1, _, by omega, by go_num, rfl, HZ2, HB2⟩
          case measure => simp [intOf]; omega
        · obtain rfl : k = n := by omega
          have hkd : decide ((k : Int) < (k : Int)) = false := decide_eq_false (by omega)
          have hz0 : z = 0 := by rw [HZ.out, HTO.out]; omega
          subst hz0
          have HB5 := hid (bl_then HB.out HW.out)
          clear HZ HW
          go_wp2
          go_ret
          exact ⟨rfl, HB5.out⟩
  · rw [fv_bad h, fe_bad h]
    have hl : 200 < s.size ∨ 200 < t.size := by omega
    obtain ⟨rfl, rfl⟩ : M = [] ∧ x = 2 := by
      rcases HM.out with ⟨_, a, b⟩ | ⟨h', _⟩ | ⟨h', _⟩
      · exact ⟨a, b⟩
      · exact absurd h' h
      · exact absurd h' h
    clear HM HR HR4 HB h
    go_wp2_with fail
    with_reducible refine (longTwo_large s t _ _ (two_strings _ _ _ _) hl).mono ?_
    rintro e w4 ⟨rfl, rfl⟩
    go_wp2
    go_ret
    exact ⟨rfl, HB4.out⟩
end Go.Proofs.Ytejcijlmpiiffaa
