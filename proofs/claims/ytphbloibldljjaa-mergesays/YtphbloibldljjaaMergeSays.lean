
/-
quilllaw.MergeSays: whatever a number and two lists of edits: it answers true.
-/
import Derived.Test.YtphbloibldljjaaMgC
import Derived.Test.YtphbloibldljjaaRefBeh
namespace Go.Proofs.Ytphbloibldljjaa
open Go.RowKit

theorem eqE_same {L M : List Es.Ev} (h : L = M) : eqE L.length M.length (fun k => L.getD k Es.none_) (fun k => M.getD k Es.none_) = true := by
  subst h
  exact eqE_true.2 ⟨rfl, fun _ _ => rfl⟩
set_option maxHeartbeats 4000000 in
theorem mergeSays_walk (N : Int) (A : Option Addr) (n c1 : Nat) (g : Nat → Es.Ev) (B : Option Addr) (m c2 : Nat) (h : Nat → Es.Ev) (w : World)
    (h1 : EvRow w A n g) (hw1 : ∀ k, k < n → EvWf (g k)) (hnc1 : n ≤ c1) (hc1 : c1 ≤ maxLen) (h2 : EvRow w B m h) (hw2 : ∀ k, k < m → EvWf (h k)) (hnc2 : m ≤ c2) (hc2 : c2 ≤ maxLen) (hN : -9223372036854775808 ≤ N ∧ N ≤ 9223372036854775807) :
    Calls Try.prog 3 #[.int .i64 N, .slice A n c1, .slice B m c2] w fun e w' => e = .returned (.bool true) ∧ Below w.heap.size w w' := by
  have H1 : Hid (EvIn w A n g) := ⟨h1, hw1, Nat.le_trans hnc1 hc1⟩
  have H2 : Hid (EvIn w B m h) := ⟨h2, hw2, Nat.le_trans hnc2 hc2⟩
  have HN : Hid (I64 N) := hN
  clear h1 hw1 hnc1 hc1 h2 hw2 hnc2 hc2 hN
  go_enter Try.func3, Try.ntmps3
  go_wp2_with fail
  with_reducible refine (Both_any N _ H1.out H2.out HN.out).mono ?_
  rintro e w1 ⟨C, c, l, x, rfl, hlc, hl, hr, hb1⟩
  have HB := hid hb1
  have HL := hid hl
  have HR := hid hr
  clear hl hr hb1
  go_wp2_with fail
  with_reducible refine (Behind_any N _ (H1.out.keep HB.out) (H2.out.keep HB.out) HN.out).mono ?_
  rintro e w2 ⟨C2, d, k, y, rfl, hkd, hk, hr2, hb2⟩
  obtain ⟨hyx, hk3⟩ := hk.of HL.out
  obtain rfl : x = y := hyx.symm
  clear hyx
  have HB := hid (bl_then HB.out hb2)
  have HR := hid (HR.out.keep hb2)
  have HR2 := hid hr2
  have HK := hid hk3
  clear hr2 hb2 hk hk3
  go_wp2_with fail
  with_reducible refine (EditsErr_any N _ (H1.out.keep HB.out).row).mono ?_
  rintro e w3 ⟨rfl, hb2⟩
  have HB := hid (bl_then HB.out hb2)
  have HR := hid (HR.out.keep hb2)
  have HR2 := hid (HR2.out.keep hb2)
  clear hb2
  by_cases ha : Es.eErr N (el g n) = 0
  · rw [ha]
    go_wp2_with fail
    with_reducible refine (EditsErr_any N _ (H2.out.keep HB.out).row).mono ?_
    rintro e w4 ⟨rfl, hb2⟩
    have HB := hid (bl_then HB.out hb2)
    have HR := hid (HR.out.keep hb2)
    have HR2 := hid (HR2.out.keep hb2)
    have hmg : mgErr N (el g n) (el h m) = Es.eErr N (el h m) := if_pos ha
    have HMG := hid hmg
    clear hb2 hmg
    go_wp2_with fail
    with_reducible refine (MCheck_any N _ (H1.out.keep HB.out) (H2.out.keep HB.out) HN.out).mono ?_
    rintro e w5 ⟨he, hb2⟩
    rw [HMG.out] at he
    subst he
    have HB := hid (bl_then HB.out hb2)
    have HR := hid (HR.out.keep hb2)
    have HR2 := hid (HR2.out.keep hb2)
    clear hb2
    by_cases hb : Es.eErr N (el h m) = 0
    · rw [hb]
      obtain ⟨q, rfl, hq, ha'⟩ := err_nat ha
      have hmz : mgErr (q : Int) (el g n) (el h m) = 0 := mg_zero.2 ⟨ha, hb⟩
      have hbo := HL.out.ok hmz
      rw [Int.toNat_natCast] at hbo
      have HBO := hid hbo
      have HA0 := hid ha
      have HB0 := hid hb
      clear hbo hmz ha' ha hb HMG HL
      go_wp2_with fail
      with_reducible refine (bothOf_any q _ (H1.out.keep HB.out).row (H2.out.keep HB.out).row HA0.out HB0.out).mono ?_
      rintro e w6 ⟨C3, c3, l3, x3, rfl, hlc3, hl3, hr3, hb3⟩
      obtain ⟨rfl, rfl⟩ := HBO.out.same hl3
      have HB := hid (bl_then HB.out hb3)
      have HR := hid (HR.out.keep hb3)
      have HR2 := hid (HR2.out.keep hb3)
      have HR3 := hid hr3
      clear hr3 hb3 hl3
      by_cases hx : x = 0
      · subst hx
        obtain ⟨_, _, hel⟩ := HBO.out.zero rfl
        have HEL := hid hel
        have hlz : l.length ≤ maxLen := by
          have := (Es.err_ch hel).2.2.1
          exact Nat.le_trans this (by decide)
        have HLZ := hid hlz
        have HK2 : Hid (k = Es.behL (el g n) (el h m)) := HK.out.trans (beh_zero _ _)
        have hkz : k.length ≤ maxLen := by
          have h1 := beh_len (el g n) h m
          have h2 := (Es.err_ch HB0.out).2.2.1
          rw [el_len] at h2
          rw [HK2.out]
          exact Nat.le_trans h1 (Nat.le_trans h2 (by decide))
        have HKZ := hid hkz
        clear hel hlz hkz HK HBO
        go_wp2_with fail
        with_reducible refine (ealike_any HR.out HR3.out HLZ.out HLZ.out).mono ?_
        rintro e w7 ⟨he, hd⟩
        rw [eqE_same rfl] at he
        subst he
        have HB := hid (HB.out.trans (hd.below _))
        have HR2 := hid (HR2.out.keep (hd.below _))
        clear hd HR HR3
        go_wp2_with fail
        with_reducible refine (behindOf_any q _ (H1.out.keep HB.out).row (H2.out.keep HB.out).row HA0.out HB0.out).mono ?_
        rintro e w8 ⟨C4, c4, rfl, hlc4, hr4, hb4⟩
        rw [← HK2.out] at hlc4 hr4 ⊢
        have HB := hid (bl_then HB.out hb4)
        have HR2 := hid (HR2.out.keep hb4)
        have HR4 := hid hr4
        clear hr4 hb4
        go_wp2_with fail
        with_reducible refine (ealike_any HR2.out HR4.out HKZ.out HKZ.out).mono ?_
        rintro e w9 ⟨he, hd⟩
        rw [eqE_same rfl] at he
        subst he
        have HB := hid (HB.out.trans (hd.below _))
        clear hd
        go_wp2
        go_ret
        exact ⟨rfl, HB.out⟩
      · obtain rfl := HBO.out.none_ hx
        obtain rfl : k = [] := HK.out.trans (beh_none hx)
        have hxx : (x != 0) = true := bne_iff_ne.2 hx
        clear HR HR2 HR3 HK HBO hx
        go_wp2
        go_ret
        exact ⟨rfl, HB.out⟩
    · have hx := HL.out.err (by rw [HMG.out]; exact hb)
      rw [HMG.out] at hx
      obtain ⟨rfl, rfl⟩ := hx
      obtain rfl : k = [] := HK.out.trans (beh_none hb)
      obtain ⟨x, hx⟩ : ∃ x, x = Es.eErr N (el h m) := ⟨_, rfl⟩
      rw [← hx] at hb ⊢
      have hxx : (x != 0) = true := bne_iff_ne.2 hb
      have hxe : (x == 0) = false := beq_eq_false_iff_ne.2 hb
      clear HR HR2 HK HL HMG hx hb
      go_wp2
      go_ret
      exact ⟨rfl, HB.out⟩
  · have hmg : mgErr N (el g n) (el h m) = Es.eErr N (el g n) := if_neg ha
    have hx := HL.out.err (by rw [hmg]; exact ha)
    rw [hmg] at hx
    obtain ⟨rfl, rfl⟩ := hx
    obtain rfl : k = [] := HK.out.trans (beh_none ha)
    have HM := hid (MCheck_any (c1 := c1) (c2 := c2) N w3 (H1.out.keep HB.out) (H2.out.keep HB.out) HN.out)
    rw [hmg] at HM
    obtain ⟨x, hx⟩ : ∃ x, x = Es.eErr N (el g n) := ⟨_, rfl⟩
    rw [← hx] at ha HM ⊢
    have hxx : (x != 0) = true := bne_iff_ne.2 ha
    have hxe : (x == 0) = false := beq_eq_false_iff_ne.2 ha
    clear HR HR2 HK HL hmg hx ha
    go_wp2_with fail
    with_reducible refine HM.out.mono ?_
    rintro e w5 ⟨rfl, hb2⟩
    have HB := hid (bl_then HB.out hb2)
    clear hb2 HM
    go_wp2
    go_ret
    exact ⟨rfl, HB.out⟩
end Go.Proofs.Ytphbloibldljjaa
