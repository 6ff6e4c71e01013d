
/-
quillkeep.MergeMeets: whatever a text and two lists of edits: it answers true.
-/
import Derived.Test.YtphbloibldljjaaMerges
import Derived.Test.YtphbloibldljjaaEdits
namespace Go.Proofs.Ytphbloibldljjaa
open Go.RowKit

theorem zeros7 (w : World) (t : TypeId) : ∀ k, k < 7 → (w.alloc (.cells #[.int .i64 0, .int .i64 0, .int .i64 0, .int .i64 0, .int .i64 0, .int .i64 0, .int .i64 0] t)).cell? ⟨w.heap.size, k, none⟩ = some (.int .i64 0) := by
  intro k hk
  match k, hk with
  | 0, _ => simp
  | 1, _ => simp
  | 2, _ => simp
  | 3, _ => simp
  | 4, _ => simp
  | 5, _ => simp
  | 6, _ => simp
/-- A good script that lies as a list: what Apply must know. -/
theorem err_in {s : ByteArray} {L : List Es.Ev} (h : Es.eErr (s.size : Int) L = 0) : (∀ k, k < L.length → EvWf (L.getD k Es.none_)) ∧ L.length ≤ maxLen ∧ s.size ≤ maxLen := by
  obtain ⟨G, q, hs⟩ := Es.scr_of (s := lst s) (by rw [lst_len]; exact h)
  have h1 := hs.from_
  rw [lst_len] at h1
  exact ⟨scr_wf hs, Nat.le_trans (scr_len hs) (by decide), Nat.le_trans h1 (by decide)⟩
set_option maxHeartbeats 4000000 in
theorem mergeMeets_walk (s : ByteArray) (A : Option Addr) (n c1 : Nat) (g : Nat → Es.Ev) (B : Option Addr) (m c2 : Nat) (h : Nat → Es.Ev) (w : World) (sa : s.size ≤ 140737488351232)
    (h1 : EvRow w A n g) (hw1 : ∀ k, k < n → EvWf (g k)) (hnc1 : n ≤ c1) (hc1 : c1 ≤ maxLen) (h2 : EvRow w B m h) (hw2 : ∀ k, k < m → EvWf (h k)) (hnc2 : m ≤ c2) (hc2 : c2 ≤ maxLen) :
    Calls Try.prog 4 #[.string s, .slice A n c1, .slice B m c2] w fun e w' => e = .returned (.bool true) ∧ Below w.heap.size w w' := by
  have H1 : Hid (EvIn w A n g) := ⟨h1, hw1, Nat.le_trans hnc1 hc1⟩
  have H2 : Hid (EvIn w B m h) := ⟨h2, hw2, Nat.le_trans hnc2 hc2⟩
  have HN : Hid (I64 (s.size : Int)) := by show I64 _; unfold I64; omega
  clear h1 hw1 hnc1 hc1 h2 hw2 hnc2 hc2
  go_enter Try.func4, Try.ntmps4
  go_wp2_with fail
  with_reducible refine (merges_ok _).mono ?_
  rintro e w1 ⟨rfl, hb1⟩
  have HB := hid hb1
  clear hb1
  go_wp2_with fail
  with_reducible refine (edits_ok _).mono ?_
  rintro e w2 ⟨rfl, hb2⟩
  have HB := hid (bl_then HB.out hb2)
  clear hb2
  go_wp2_with fail
  with_reducible refine (Both_any (s.size : Int) _ (H1.out.keep HB.out) (H2.out.keep HB.out) HN.out).mono ?_
  rintro e w3 ⟨C, c, l, x, rfl, hlc, hl, hr, hb2⟩
  have HB := hid (bl_then HB.out hb2)
  have HL := hid hl
  have HR := hid hr
  clear hl hr hb2
  go_wp2_with fail
  with_reducible refine (Both_any (s.size : Int) _ (H2.out.keep HB.out) (H1.out.keep HB.out) HN.out).mono ?_
  rintro e w4 ⟨C2, d, k, y, rfl, hkd, hk, hr2, hb2⟩
  have HB := hid (bl_then HB.out hb2)
  have HR := hid (HR.out.keep hb2)
  have HK := hid hk
  have HR2 := hid hr2
  clear hk hr2 hb2
  by_cases hx : x = 0
  · subst hx
    have hmg := HL.out.good rfl
    obtain ⟨ha, hb⟩ := mg_zero.1 hmg
    have hbo := HL.out.ok hmg
    rw [Int.toNat_natCast] at hbo
    have hbk := HK.out.ok (mg_comm.1 hmg)
    rw [Int.toNat_natCast] at hbk
    obtain ⟨hlk, h0y⟩ := hbo.symm.same hbk
    obtain rfl : l = k := hlk
    obtain rfl : 0 = y := h0y
    obtain ⟨_, hisb, hel⟩ := hbo.zero rfl
    have m1 := Es.meets (s := lst s) hisb (by rw [lst_len]; exact ha) (by rw [lst_len]; exact hb) (by rw [lst_len]; exact hel)
    have m2 := Es.meets (s := lst s) hisb.symm (by rw [lst_len]; exact hb) (by rw [lst_len]; exact ha) (by rw [lst_len]; exact hel)
    have HA0 := hid ha
    have HB0 := hid hb
    have HEL := hid hel
    have HM1 := hid m1
    have HM2 := hid m2
    have HIL := hid (err_in (s := s) hel)
    have hsm : s.size ≤ maxLen := (err_in (s := s) hel).2.2
    have HSM := hid hsm
    clear hmg ha hb hbo hbk hisb hel m1 m2 hsm
    go_wp2_with fail
    with_reducible refine (Behind_any (s.size : Int) _ (H1.out.keep HB.out) (H2.out.keep HB.out) HN.out).mono ?_
    rintro e w5 ⟨C3, c3, p, z, rfl, hpc, hp, hr3, hb2⟩
    obtain ⟨hz, hp3⟩ := hp.of HL.out
    obtain rfl : 0 = z := hz.symm
    rw [beh_zero] at hp3
    have HP := hid hp3
    have HB := hid (bl_then HB.out hb2)
    have HR := hid (HR.out.keep hb2)
    have HR2 := hid (HR2.out.keep hb2)
    have HR3 := hid hr3
    clear hp hp3 hz hr3 hb2
    go_wp2_with fail
    with_reducible refine (Behind_any (s.size : Int) _ (H2.out.keep HB.out) (H1.out.keep HB.out) HN.out).mono ?_
    rintro e w6 ⟨C4, c4, q, z, rfl, hqc, hq, hr4, hb2⟩
    obtain ⟨hz, hq3⟩ := hq.of HK.out
    obtain rfl : 0 = z := hz.symm
    rw [beh_zero] at hq3
    have HQ := hid hq3
    have HB := hid (bl_then HB.out hb2)
    have HR := hid (HR.out.keep hb2)
    have HR2 := hid (HR2.out.keep hb2)
    have HR3 := hid (HR3.out.keep hb2)
    have HR4 := hid hr4
    clear hq hq3 hz hr4 hb2 HL HK
    go_wp2_with fail
    with_reducible refine (Apply_any s _ HR.out HIL.out.1 HIL.out.2.1 HSM.out).mono ?_
    rintro e w7 ⟨t, x1, rfl, hap, hb2⟩
    rw [el_of] at hap
    obtain ⟨rfl, ht⟩ := hap.lit HEL.out
    have HT := hid ht
    have HB := hid (bl_then HB.out hb2)
    have HR := hid (HR.out.keep hb2)
    have HR2 := hid (HR2.out.keep hb2)
    have HR3 := hid (HR3.out.keep hb2)
    have HR4 := hid (HR4.out.keep hb2)
    have HI1 := hid (H1.out.keep HB.out)
    clear ht hap hb2
    go_wp2_with fail
    with_reducible refine (Apply_any s _ HI1.out.row HI1.out.wf HI1.out.len HSM.out).mono ?_
    rintro e w8 ⟨u, x1, rfl, hap, hb2⟩
    obtain ⟨rfl, hu⟩ := hap.lit HA0.out
    have HU := hid hu
    have HB := hid (bl_then HB.out hb2)
    have HR := hid (HR.out.keep hb2)
    have HR2 := hid (HR2.out.keep hb2)
    have HR3 := hid (HR3.out.keep hb2)
    have HR4 := hid (HR4.out.keep hb2)
    have HI2 := hid (H2.out.keep HB.out)
    clear hu hap hb2 HI1
    go_wp2_with fail
    with_reducible refine (Apply_any s _ HI2.out.row HI2.out.wf HI2.out.len HSM.out).mono ?_
    rintro e w9 ⟨v, x1, rfl, hap, hb2⟩
    obtain ⟨rfl, hv⟩ := hap.lit HB0.out
    have HV := hid hv
    have HB := hid (bl_then HB.out hb2)
    have HR := hid (HR.out.keep hb2)
    have HR2 := hid (HR2.out.keep hb2)
    have HR3 := hid (HR3.out.keep hb2)
    have HR4 := hid (HR4.out.keep hb2)
    have HPE : Hid (Es.eErr (u.size : Int) p = 0) := by
      show _ = _
      rw [HP.out, HU.out, mk_size]
      exact HM1.out.1
    have HQE : Hid (Es.eErr (v.size : Int) q = 0) := by
      show _ = _
      rw [HQ.out, HV.out, mk_size]
      exact HM2.out.1
    have HPI := hid (err_in HPE.out)
    have HQI := hid (err_in HQE.out)
    clear hv hap hb2 HI2
    go_wp2_with fail
    with_reducible refine (Apply_any u _ HR3.out HPI.out.1 HPI.out.2.1 HPI.out.2.2).mono ?_
    rintro e w10 ⟨t2, x1, rfl, hap, hb2⟩
    rw [el_of] at hap
    obtain ⟨rfl, ht2⟩ := hap.lit HPE.out
    obtain rfl : t2 = t := by rw [ht2, HT.out, HP.out, HU.out, lst_mk, HM1.out.2]
    have HB := hid (bl_then HB.out hb2)
    have HR := hid (HR.out.keep hb2)
    have HR2 := hid (HR2.out.keep hb2)
    have HR4 := hid (HR4.out.keep hb2)
    clear ht2 hap hb2 HR3
    go_wp2_with fail
    with_reducible refine (Apply_any v _ HR4.out HQI.out.1 HQI.out.2.1 HQI.out.2.2).mono ?_
    rintro e w11 ⟨t3, x1, rfl, hap, hb2⟩
    rw [el_of] at hap
    obtain ⟨rfl, ht3⟩ := hap.lit HQE.out
    obtain rfl : t3 = t2 := by rw [ht3, HT.out, HQ.out, HV.out, lst_mk, HM2.out.2]
    have HB := hid (bl_then HB.out hb2)
    have HR := hid (HR.out.keep hb2)
    have HR2 := hid (HR2.out.keep hb2)
    have htt : (t3.toList == t3.toList) = true := by simp
    have hz7 := zeros7 w11 23
    clear ht3 hap hb2 HR4
    go_wp2_with fail
    with_reducible refine (good_ok _ 7 7 _ (by decide) hz7).mono ?_
    rintro e w12 ⟨rfl, rfl⟩
    have HB := hid (HB.out.alloc HB.out.size (.cells #[.int .i64 0, .int .i64 0, .int .i64 0, .int .i64 0, .int .i64 0, .int .i64 0, .int .i64 0] 23))
    have HR : Hid (EvRow (w11.alloc (.cells #[.int .i64 0, .int .i64 0, .int .i64 0, .int .i64 0, .int .i64 0, .int .i64 0, .int .i64 0] 23)) C l.length (fun k => l.getD k Es.none_)) := HR.out.keep (bl_new _ _)
    have HR2 : Hid (EvRow (w11.alloc (.cells #[.int .i64 0, .int .i64 0, .int .i64 0, .int .i64 0, .int .i64 0, .int .i64 0, .int .i64 0] 23)) C2 l.length (fun k => l.getD k Es.none_)) := HR2.out.keep (bl_new _ _)
    have HEQ : Hid (eqE l.length l.length (fun k => l.getD k Es.none_) (fun k => l.getD k Es.none_) = true) := eqE_true.2 ⟨rfl, fun _ _ => rfl⟩
    clear hz7
    go_wp2_with fail
    with_reducible refine (eequal_any HR.out HR2.out HIL.out.2.1 HIL.out.2.1).mono ?_
    rintro e w13 ⟨he, hd⟩
    rw [HEQ.out] at he
    subst he
    have HB := hid (HB.out.trans (hd.below _))
    clear hd
    go_wp2
    go_ret
    exact ⟨rfl, HB.out⟩
  · have hy : y ≠ 0 := fun e => by
      have hmg := HK.out.good e
      have hbo := (HK.out.ok hmg).symm
      exact hx (((HL.out.ok (mg_comm.1 hmg)).same hbo).2.trans e)
    obtain rfl := HL.out.none_ hx
    have hxx : (x != 0) = true := bne_iff_ne.2 hx
    have hyy : (y != 0) = true := bne_iff_ne.2 hy
    clear HL HK HR HR2 hx hy
    go_wp2
    go_ret
    exact ⟨rfl, HB.out⟩
end Go.Proofs.Ytphbloibldljjaa
