
/-
quillkeep.EditUndone: whatever a text and edits: it answers true.
-/
import Derived.Test.YtapjodbaaejldaaEdits
import Derived.Test.YtapjodbaaejldaaEEqual
namespace Go.Proofs.Ytapjodbaaejldaa
open Go.RowKit

theorem eqE_list {L M : List Es.Ev} {n : Nat} {g : Nat → Es.Ev} (hL : L = M) (hM : el g n = M) : eqE L.length n (fun k => L.getD k Es.none_) g = true := by
  subst hL
  rw [eqE_true]
  have hl : L.length = n := by rw [← hM, el_len]
  refine ⟨hl, fun k hk => ?_⟩
  rw [← hM, el_at (by omega)]
set_option maxHeartbeats 2000000 in
theorem editUndone_walk (s : ByteArray) (A : Option Addr) (n c : Nat) (g : Nat → Es.Ev) (w : World) (sa : s.size ≤ 140737488351232) (h : EvRow w A n g) (hw : ∀ k, k < n → EvWf (g k)) (hnc : n ≤ c) (hc : c ≤ maxLen) :
    Calls Try.prog 5 #[.string s, .slice A n c] w fun e w' => e = .returned (.bool true) ∧ Below w.heap.size w w' := by
  have hnm : n ≤ maxLen := Nat.le_trans hnc hc
  have hsm : s.size ≤ maxLen := by unfold maxLen; omega
  have H := hid h
  have HW := hid hw
  have HNM := hid hnm
  have HSM := hid hsm
  clear h hw hnm hsm hnc hc
  go_enter Try.func5, Try.ntmps5
  go_wp2_with fail
  with_reducible refine (edits_ok _).mono ?_
  rintro e w1 ⟨rfl, hb1⟩
  have HB := hid hb1
  clear hb1
  go_wp2_with fail
  with_reducible refine (Apply_any s _ (H.out.keep HB.out) HW.out HNM.out HSM.out).mono ?_
  rintro e w2 ⟨t, x, rfl, ha, hb2⟩
  have HB := hid (bl_then HB.out hb2)
  have HA := hid ha
  clear hb2 ha
  go_wp2_with fail
  with_reducible refine (Undo_any s _ (H.out.keep HB.out) HW.out HNM.out HSM.out).mono ?_
  rintro e w3 ⟨B, d, M, y, rfl, hMd, hu, hr, hb2⟩
  have HB := hid (bl_then HB.out hb2)
  have HU := hid hu
  have HR := hid hr
  clear hb2 hu hr
  by_cases hx : x = 0
  · by_cases hy : y = 0
    · subst hx hy
      obtain ⟨G, q, hs, hf, hM⟩ := HU.out.val rfl
      obtain ⟨_, ht⟩ := HA.out.ok hs
      have hlt : lst t = Es.dst G q := by rw [ht, lst_mk]
      have hsu : Es.Scr (lst t) M (G.map Es.swp) q := by rw [hlt, hM]; exact hs.undo hf
      have hfm : Es.Few M := by rw [hM, Es.few_iff]; exact Es.few_back hs.good
      have hMz : M.length ≤ maxLen := Nat.le_trans (scr_len hsu) (by decide)
      have htz : t.size ≤ maxLen := by
        have := hsu.from_
        rw [lst_len] at this
        exact Nat.le_trans this (by decide)
      have hel : el (fun k => M.getD k Es.none_) M.length = M := el_of M
      have HSU := hid hsu
      have HFM := hid hfm
      have HMZ := hid hMz
      have HTZ := hid htz
      have HEL := hid hel
      have HWM := hid (scr_wf hsu)
      have HSB : Hid (mkS (Es.dst (G.map Es.swp) q) = s) := by
        show _ = _
        rw [Es.dst_swp, hs.src_, mk_lst]
      have HSW : Hid (Es.evs 0 ((G.map Es.swp).map Es.swp) = el g n) := by
        show _ = _
        rw [Es.swp_swp, hs.evs_]
      clear hs hf hM ht hlt hsu hfm hMz htz hel HA HU
      go_wp2_with fail
      with_reducible refine (Apply_any t _ HR.out HWM.out HMZ.out HTZ.out).mono ?_
      rintro e w4 ⟨v, x, rfl, ha, hb2⟩
      rw [HEL.out] at ha
      obtain ⟨rfl, hv⟩ := ha.ok HSU.out
      rw [HSB.out] at hv
      subst hv
      have HB := hid (bl_then HB.out hb2)
      have HR := hid (HR.out.keep hb2)
      clear hb2 ha
      go_wp2_with fail
      with_reducible refine (Undo_any t _ HR.out HWM.out HMZ.out HTZ.out).mono ?_
      rintro e w5 ⟨B2, d2, M2, y, rfl, hMd2, hu, hr2, hb2⟩
      rw [HEL.out] at hu
      obtain ⟨rfl, hM2⟩ := hu.ok HSU.out HFM.out
      rw [HSW.out] at hM2
      have HB := hid (bl_then HB.out hb2)
      have HR2 := hid hr2
      have HEQ := hid (eqE_list hM2 rfl)
      have hz2 : M2.length ≤ maxLen := by rw [hM2, el_len]; exact HNM.out
      have HZ2 := hid hz2
      clear hb2 hu hr2 hM2 hz2
      go_wp2_with fail
      with_reducible refine (good_ok _ 2 2 _ (by decide) (two_zeros _ _)).mono ?_
      rintro e w6 ⟨rfl, rfl⟩
      have HB := hid (HB.out.alloc HB.out.size (.cells #[.int .i64 0, .int .i64 0] 23))
      have HR2 : Hid (EvRow (w5.alloc (.cells #[.int .i64 0, .int .i64 0] 23)) B2 M2.length (fun k => M2.getD k Es.none_)) := HR2.out.keep (bl_new _ _)
      have hvv : (v.toList == v.toList) = true := by simp
      generalize w5.alloc (.cells #[.int .i64 0, .int .i64 0] 23) = w6 at *
      have HL := hid (H.out.keep HB.out)
      go_wp2_with fail
      with_reducible refine (eequal_any HR2.out HL.out HZ2.out HNM.out).mono ?_
      rintro e w7 ⟨he, hd⟩
      rw [HEQ.out] at he
      subst he
      have HB := hid (HB.out.trans (hd.below _))
      clear hd
      go_wp2
      go_ret
      exact ⟨rfl, HB.out⟩
    · have hM := HU.out.none_ hy
      have hMl : ((M.length : Int) == 0) = true := by rw [hM]; rfl
      have hMl2 : (M.length : Int) = 0 := by rw [hM]; rfl
      have hyy : (y != 0) = true := bne_iff_ne.2 hy
      subst hx
      clear hM HA HU
      go_wp2
      go_ret
      exact ⟨rfl, HB.out⟩
  · have ht := HA.out.none_ hx
    have he := HA.out.err
    have hy := HU.out.err (by rw [← he]; exact hx)
    have hM := hy.2
    have hMl : ((M.length : Int) == 0) = true := by rw [hM]; rfl
    have hMl2 : (M.length : Int) = 0 := by rw [hM]; rfl
    have hxx : (x != 0) = true := bne_iff_ne.2 hx
    have hxe : (x == 0) = false := beq_eq_false_iff_ne.2 hx
    have hte : t.toList.isEmpty = true := no_bytes (by rw [ht]; rfl)
    clear hM HA HU ht he hy hx
    go_wp2
    go_ret
    exact ⟨rfl, HB.out⟩
end Go.Proofs.Ytapjodbaaejldaa
