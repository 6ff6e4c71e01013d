
/-
quillkeep.EditBetweens: whatever two texts and an edit: it answers true.
-/
import Derived.Test.YtapjodbaaejldaaEdits
import Derived.Test.YtapjodbaaejldaaEEqual
namespace Go.Proofs.Ytapjodbaaejldaa
open Go.RowKit

def s_hello : ByteArray := ⟨#[104, 101, 108, 108, 111]⟩
def s_help : ByteArray := ⟨#[104, 101, 108, 112]⟩
theorem hello_btw : Es.btw (lst ⟨#[104, 101, 108, 108, 111]⟩) (lst ⟨#[104, 101, 108, 112]⟩) = ⟨3, 2, ⟨#[112]⟩⟩ := by
  have : Es.btw (lst ⟨#[104, 101, 108, 108, 111]⟩) (lst ⟨#[104, 101, 108, 112]⟩) = ⟨3, 2, mkS [112]⟩ := rfl
  rw [this]; rfl
/-- One edit, checked, as numbers. -/
theorem one_scr {s : ByteArray} {x : Es.Ev} {G : List Es.Sg} {q : List UInt8} (h : Es.Scr (lst s) [x] G q) : ∃ a d : Nat, x.a = (a : Int) ∧ x.d = (d : Int) ∧ a + d ≤ (lst s).length ∧ Es.dst G q = (lst s).take a ++ (lst x.s ++ (lst s).drop (a + d)) := by
  have hc := Es.ch_at 0 h.ch (by simp)
  have e0 : [x].getD 0 Es.none_ = x := rfl
  rw [e0] at hc
  obtain ⟨h1, _, h3, h4, _⟩ := hc
  obtain ⟨a, ha⟩ := Int.eq_ofNat_of_zero_le h1
  obtain ⟨d, hd⟩ := Int.eq_ofNat_of_zero_le h3
  refine ⟨a, d, ha, hd, by omega, ?_⟩
  rw [← h.done]
  simp only [Es.doneL]
  rw [ha, hd, Int.toNat_natCast, show ((a : Int) + (d : Int)).toNat = a + d by omega, List.append_assoc]
set_option maxHeartbeats 2000000 in
set_option maxRecDepth 100000 in
theorem editBetweens_walk (s t : ByteArray) (x : Es.Ev) (w : World) (sa : s.size ≤ 140737488351232) (sb : t.size ≤ 140737488351232) (hx : EvWf x) :
    Calls Try.prog 8 #[.string s, .string t, evV x] w fun e w' => e = .returned (.bool true) ∧ Below w.heap.size w w' := by
  unfold evV
  have hsm : s.size ≤ maxLen := by unfold maxLen; omega
  have htm : t.size ≤ maxLen := by unfold maxLen; omega
  have HSM := hid hsm
  have HTM := hid htm
  have HXW := hid hx
  have HXN := hid (ev_new w x 36)
  have HB0 := hid (bl_new w (.cells #[.int .i64 x.a, .int .i64 x.d, .string x.s] 36))
  have HSZ := hid (show w.heap.size < (w.alloc (.cells #[.int .i64 x.a, .int .i64 x.d, .string x.s] 36)).heap.size by simp)
  clear hsm htm hx
  go_enter Try.func8, Try.ntmps8
  go_wp2_with fail
  generalize w.alloc (.cells #[.int .i64 x.a, .int .i64 x.d, .string x.s] 36) = w1 at *
  with_reducible refine (EdOf_any ⟨#[104, 101, 108, 108, 111]⟩ ⟨#[104, 101, 108, 112]⟩ _ (by decide) (by decide)).mono ?_
  rintro e w2 ⟨B, m, d, y, rfl, hmd, hof, hr, hb1⟩
  rw [hello_btw] at hr
  obtain ⟨rfl, rfl⟩ : m = 1 ∧ y = 0 := by
    rcases hof with ⟨h1, _⟩ | ⟨_, h1, _⟩ | ⟨_, _, h1, _⟩ | ⟨_, _, _, h1, h2⟩
    · exact absurd ⟨by decide, by decide⟩ h1
    · exact absurd h1 (by decide)
    · rw [hello_btw] at h1; exact absurd h1 (by decide)
    · exact ⟨h1, h2⟩
  have HR : Hid (EvRow (w2.alloc (.cells #[.int .i64 3, .int .i64 2, .string ⟨#[112]⟩] 36)) B 1 (fun _ => ⟨3, 2, ⟨#[112]⟩⟩)) := hr.keep (bl_new _ _)
  have HL : Hid (EvRow (w2.alloc (.cells #[.int .i64 3, .int .i64 2, .string ⟨#[112]⟩] 36)) (some ⟨w2.heap.size, 0, none⟩) 1 (fun _ => ⟨3, 2, ⟨#[112]⟩⟩)) := EvRow.one w2 ⟨3, 2, ⟨#[112]⟩⟩ _ _ rfl
  have HB := hid (bl_then hb1 (bl_new w2 (.cells #[.int .i64 3, .int .i64 2, .string ⟨#[112]⟩] 36)))
  have HEQ : Hid (eqE 1 1 (fun _ => (⟨3, 2, ⟨#[112]⟩⟩ : Es.Ev)) (fun _ => ⟨3, 2, ⟨#[112]⟩⟩) = true) := eqE_true.2 ⟨rfl, fun _ _ => rfl⟩
  clear hof hr hb1
  go_wp2_with fail
  with_reducible refine (eequal_any HR.out HL.out (by decide) (by decide)).mono ?_
  rintro e w3 ⟨he, hd3⟩
  rw [HEQ.out] at he
  subst he
  have HB := hid (HB.out.trans (hd3.below _))
  clear hd3 HEQ HR HL
  go_wp2_with fail
  with_reducible refine (edits_ok _).mono ?_
  rintro e w4 ⟨rfl, hb2⟩
  have HB := hid (bl_then HB.out hb2)
  clear hb2
  go_wp2_with fail
  with_reducible refine (EdOf_any s t _ HSM.out HTM.out).mono ?_
  rintro e w5 ⟨B, m, d, y, rfl, hmd, hof, hr, hb2⟩
  have HB := hid (bl_then HB.out hb2)
  have HO := hid hof
  have HR := hid hr
  clear hb2 hof hr
  by_cases hy : y = 0
  · subst hy
    have hcase : (s.size ≤ 200 ∧ t.size ≤ 200) ∧ ((s = t ∧ m = 0) ∨ (s ≠ t ∧ (Es.btw (lst s) (lst t)).s.size ≤ 40 ∧ m = 1)) := by
      rcases HO.out with ⟨_, _, h1⟩ | ⟨h0, h1, h2, _⟩ | ⟨_, _, _, _, h1⟩ | ⟨h0, h1, h2, h3, _⟩
      · exact absurd h1 (by decide)
      · exact ⟨h0, .inl ⟨h1, h2⟩⟩
      · exact absurd h1 (by decide)
      · exact ⟨h0, .inr ⟨h1, h2, h3⟩⟩
    obtain ⟨⟨hs, ht⟩, hcase⟩ := hcase
    have hscr : ∃ G q, Es.Scr (lst s) (el (fun _ => Es.btw (lst s) (lst t)) m) G q ∧ Es.dst G q = lst t := by
      rcases hcase with ⟨rfl, rfl⟩ | ⟨h1, h2, rfl⟩
      · exact ⟨[], lst s, ⟨rfl, rfl, trivial, by simp, by rw [lst_len]; exact hs, by rw [show Es.dst [] (lst s) = lst s from rfl, lst_len]; exact hs⟩, rfl⟩
      · exact Es.btw_scr (fun q => h1 (lst_inj_ q)) (by rw [lst_len]; exact hs) (by rw [lst_len]; exact ht) h2
    obtain ⟨G, q, hscr, hdst⟩ := hscr
    have hm20 : m ≤ maxLen := by
      rcases hcase with ⟨_, h⟩ | ⟨_, _, h⟩
      · rw [h]; decide
      · rw [h]; decide
    have hwf : ∀ k, k < m → EvWf ((fun _ => Es.btw (lst s) (lst t)) k) := fun k hk => by
      have := scr_wf hscr k (by rw [el_len]; exact hk)
      rw [el_at hk] at this
      exact this
    have HSC := hid hscr
    have HDS := hid hdst
    have HM20 := hid hm20
    have HWF := hid hwf
    have HCA := hid hcase
    clear hscr hdst hm20 hwf hcase HO
    go_wp2_with fail
    with_reducible refine (Apply_any s _ HR.out HWF.out HM20.out HSM.out).mono ?_
    rintro e w6 ⟨u, z, rfl, ha, hb2⟩
    obtain ⟨rfl, hu⟩ := ha.ok HSC.out
    rw [HDS.out, mk_lst] at hu
    subst hu
    have HB := hid (bl_then HB.out hb2)
    have HR := hid (HR.out.keep hb2)
    clear ha hb2
    have huu : (u.toList == u.toList) = true := by simp
    -- the edit that came in, once more as a row
    have hx6 : ∀ j, w6.cell? ⟨w.heap.size, j, none⟩ = w1.cell? ⟨w.heap.size, j, none⟩ := fun j => HB.out.cell (p := ⟨w.heap.size, j, none⟩) HSZ.out
    have c0 := (hx6 0).trans HXN.out.1
    have c1 := (hx6 1).trans HXN.out.2.1
    have c2 := (hx6 2).trans HXN.out.2.2
    clear hx6
    have HX6 : Hid (EvRow (w6.alloc (.cells #[.int .i64 x.a, .int .i64 x.d, .string x.s] 36)) (some ⟨w6.heap.size, 0, none⟩) 1 (fun _ => x)) := EvRow.one w6 x _ _ rfl
    have HXW1 : Hid (∀ k, k < 1 → EvWf ((fun _ => x) k)) := fun _ _ => HXW.out
    have HB7 := hid (bl_then HB.out (bl_new w6 (.cells #[.int .i64 x.a, .int .i64 x.d, .string x.s] 36)))
    have HR7 : Hid (EvRow (w6.alloc (.cells #[.int .i64 x.a, .int .i64 x.d, .string x.s] 36)) B m (fun _ => Es.btw (lst s) (lst u))) := HR.out.keep (bl_new _ _)
    have hel1 : el (fun _ => x) 1 = [x] := rfl
    rcases HCA.out with ⟨hsu, rfl⟩ | ⟨hsu, hbs, rfl⟩
    · have q1 : (s.toList == u.toList) = true := by rw [hsu]; simp
      clear HCA HSC HDS HWF hsu HR7
      go_wp2_with fail
      with_reducible refine (Apply_any s _ HX6.out HXW1.out (by decide) HSM.out).mono ?_
      rintro e w8 ⟨v, z, rfl, ha, hb2⟩
      have HB8 := hid (bl_then HB0.out (HB7.out.trans (hb2.mono HB7.out.size)))
      clear ha hb2
      by_cases hz : z = 0
      · have hz1 : (z != 0) = false := by rw [hz]; rfl
        by_cases hv : v = u
        · have q2 : (v.toList == u.toList) = true := by rw [hv]; simp
          clear hz hv
          go_wp2
          go_quiet (fail)
          go_wp2
          go_ret
          exact ⟨rfl, bl_drewN HB8.out _⟩
        · have q2 : (v.toList == u.toList) = false := beq_eq_false_iff_ne.2 fun e => hv (list_eq.1 e)
          clear hz hv
          go_wp2
          go_quiet (fail)
          go_wp2
          go_ret
          exact ⟨rfl, bl_drewN HB8.out _⟩
      · have hz1 : (z != 0) = true := bne_iff_ne.2 hz
        clear hz
        go_wp2
        go_quiet (fail)
        go_wp2
        go_ret
        exact ⟨rfl, bl_drewN HB8.out _⟩
    · have q1 : (s.toList == u.toList) = false := beq_eq_false_iff_ne.2 fun e => hsu (list_eq.1 e)
      clear HCA HSC HDS HWF hsu hbs
      go_wp2_with fail
      with_reducible refine (Apply_any s _ HX6.out HXW1.out (by decide) HSM.out).mono ?_
      rintro e w8 ⟨v, z, rfl, ha, hb2⟩
      rw [hel1] at ha
      have hb7 := HB7.out.trans (hb2.mono HB7.out.size)
      have HB8 := hid (bl_then HB0.out hb7)
      have HR8 := hid (HR7.out.keep hb2)
      have HA := hid ha
      have d1 := (hb7.cell (p := ⟨w.heap.size, 1, none⟩) HSZ.out).trans HXN.out.2.1
      have d2 := (hb7.cell (p := ⟨w.heap.size, 2, none⟩) HSZ.out).trans HXN.out.2.2
      clear ha hb2 c0 c1 c2 hb7
      by_cases hz : z = 0
      · have hz1 : (z != 0) = false := by rw [hz]; rfl
        by_cases hv : v = u
        · have q2 : (v.toList == u.toList) = true := by rw [hv]; simp
          obtain ⟨b, o, rfl, hlt, e0, e1, e2⟩ := HR8.out 0 (by omega)
          obtain ⟨G, q, hscr, hvq⟩ := HA.out.val hz
          obtain ⟨a, dd, ha1, hd1, had, hdst⟩ := one_scr hscr
          have hle := Es.btw_least (s := lst s) (t := lst u) (ins := lst x.s) (a := a) (d := dd) had (by rw [← hv, hvq, lst_mk]; exact hdst)
          rw [lst_len] at hle
          obtain ⟨bt, hbt⟩ : ∃ bt, bt = Es.btw (lst s) (lst u) := ⟨_, rfl⟩
          try simp only at e0 e1 e2
          rw [← hbt] at e0 e1 e2 hle
          have g1 : bt.d ≤ x.d := by rw [hd1]; exact hle.1
          have g2 : (bt.s.size : Int) ≤ (x.s.size : Int) := by have := hle.2; omega
          have g1' : decide (bt.d ≤ x.d) = true := decide_eq_true g1
          have e1' : w8.cell? ⟨b, o + 1, none⟩ = some (.int .i64 bt.d) := by simpa using e1
          have e2' : w8.cell? ⟨b, o + 2, none⟩ = some (.string bt.s) := by simpa using e2
          clear hz hv hbt hvq hscr hdst ha1 hd1 had hle HA e0 e1 e2
          go_wp2
          go_quiet (fail)
          go_wp2
          go_ret
          exact ⟨rfl, bl_drewN HB8.out _⟩
        · have q2 : (v.toList == u.toList) = false := beq_eq_false_iff_ne.2 fun e => hv (list_eq.1 e)
          clear hz hv HA
          go_wp2
          go_quiet (fail)
          go_wp2
          go_ret
          exact ⟨rfl, bl_drewN HB8.out _⟩
      · have hz1 : (z != 0) = true := bne_iff_ne.2 hz
        clear hz HA
        go_wp2
        go_quiet (fail)
        go_wp2
        go_ret
        exact ⟨rfl, bl_drewN HB8.out _⟩
  · have hm0 : m = 0 := by
      rcases HO.out with ⟨_, h1, _⟩ | ⟨_, _, h1, _⟩ | ⟨_, _, _, h1, _⟩ | ⟨_, _, _, _, h1⟩
      · exact h1
      · exact h1
      · exact h1
      · exact absurd h1 hy
    subst hm0
    have hyy : (y != 0) = true := bne_iff_ne.2 hy
    clear HO hy
    go_wp2
    go_ret
    exact ⟨rfl, bl_then HB0.out HB.out⟩
end Go.Proofs.Ytapjodbaaejldaa
