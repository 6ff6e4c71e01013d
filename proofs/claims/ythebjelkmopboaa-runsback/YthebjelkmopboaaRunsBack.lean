
/-
quillkeep.RunsBack: whatever s, l: it answers true.
-/
import Derived.Test.YthebjelkmopboaaFrRuns
import Derived.Test.YthebjelkmopboaaFrWhole
import Derived.Test.YthebjelkmopboaaREqual
import Derived.Test.YthebjelkmopboaaApp
namespace Go.Proofs.Ythebjelkmopboaa
open Go.RowKit

theorem aab_runs : Rm.runs (lst ⟨#[97, 97, 98]⟩) = [(97, 2), (98, 1)] := by decide
theorem lit_runs (w : World) (N : Nat) (hN : w.heap.size = N) : RRow (w.alloc (.cells #[.int .u8 97, .int .i64 2, .int .u8 98, .int .i64 1] 39)) (some ⟨N, 0, none⟩) 2 (fun k => [((97 : UInt8), (2 : Int)), (98, 1)].getD k (0, 0)) := by
  subst hN
  intro k hk
  refine ⟨w.heap.size, 0, rfl, by simp, ?_⟩
  rw [cell_of_row _ _ _ _ _ _ (heap_alloc_new w _), cell_of_row _ _ _ _ _ _ (heap_alloc_new w _)]
  match k, hk with
  | 0, _ => exact ⟨rfl, rfl⟩
  | 1, _ => exact ⟨rfl, rfl⟩
set_option maxHeartbeats 1000000 in
set_option maxRecDepth 100000 in
theorem runsBack_walk (s : ByteArray) (A : Option Addr) (n c : Nat) (h : Nat → Rm.R) (w : World) (_hs : s.size ≤ 140737488351232) (hr : RRow w A n h) (hc : n ≤ c) (hcm : c ≤ maxLen) :
    Calls Try.prog 6 #[.string s, .slice A n c] w fun e w' => e = .returned (.bool true) ∧ Below w.heap.size w w' := by
  have hnm : n ≤ maxLen := Nat.le_trans hc hcm
  have hrun0 := FRuns_ok ⟨#[97, 97, 98]⟩ w (by decide)
  unfold RunsPost at hrun0
  rw [aab_runs] at hrun0
  have hss : (s.toList == s.toList) = true := beq_self_eq_true _
  have hssn : (s.toList != s.toList) = false := by simp
  have hee : ((ByteArray.empty).toList == (⟨#[]⟩ : ByteArray).toList) = true := beq_self_eq_true _
  have hmm : (mkS []).toList.isEmpty = true := no_bytes (by rw [mk_size]; rfl)
  obtain ⟨J, hJ⟩ : ∃ J, J = Rm.whole (rs h n) := ⟨_, rfl⟩
  have hlen := Rm.whole_len (rs h n)
  have hfst := Rm.whole_fst (L := rs h n)
  rw [← hJ] at hlen hfst
  have HF := hid hfst
  have HJ := hid hJ
  have HR := hid hr
  have hnil : Rm.whole (rs h 0) = (0, []) := rfl
  have HNIL := hid hnil
  clear hr hJ hfst hnil hc hcm
  -- what follows the part on s
  go_enter Try.func6, Try.ntmps6
  go_wp2_with fail
  with_reducible refine hrun0.mono ?_
  rintro e w1 ⟨v, rfl, hown, hb⟩
  obtain ⟨A1, c1, rfl, hc1, hrow⟩ := hown.row
  have hrow2 : RRow (w1.alloc (.cells #[.int .u8 97, .int .i64 2, .int .u8 98, .int .i64 1] 39)) A1 2 (fun k => [((97 : UInt8), (2 : Int)), (98, 1)].getD k (0, 0)) := hrow.keep (bl_new w1 (.cells #[.int .u8 97, .int .i64 2, .int .u8 98, .int .i64 1] 39))
  have HB := hid hb
  have H2 := hid hrow2
  have HL := hid (lit_runs w1 _ rfl)
  clear hrun0 hown hb hrow hrow2
  go_wp2_with fail
  with_reducible refine (requal_any H2.out HL.out (by decide) (by decide)).mono ?_
  rintro e w2 ⟨rfl, hd⟩
  have HB2 : Hid (Below w.heap.size w w2) := bl_then HB.out (bl_then (bl_new w1 _) (hd.below _))
  have he : eqR 2 2 (fun k => [((97 : UInt8), (2 : Int)), (98, 1)].getD k (0, 0)) (fun k => [((97 : UInt8), (2 : Int)), (98, 1)].getD k (0, 0)) = true := eqR_true.2 ⟨rfl, fun _ _ => rfl⟩
  rw [he]
  have HR2 := hid (HR.out.keep HB2.out)
  clear H2 HL hd HB HR he
  by_cases hs : s.size ≤ 200
  · have hl200 : (lst s).length ≤ 200 := by rw [lst_len]; exact hs
    have hwr := Rm.whole_runs hl200
    have hRl := Rm.runs_len (lst s)
    rw [lst_len] at hRl
    obtain ⟨R, hR⟩ : ∃ R, R = Rm.runs (lst s) := ⟨_, rfl⟩
    have hrunS := fun w => FRuns_ok s w hs
    unfold RunsPost at hrunS
    simp only [← hR] at hrunS
    rw [← hR] at hwr hRl
    have HW := hid hwr
    have hwhole : ∀ (B : Option Addr) (d : Nat) (w : World), RRow w B R.length (fun k => R.getD k (0, 0)) → Calls Try.prog 12 #[.slice B R.length d] w fun e w' => e = .returned (.tuple #[.string s, .int .i64 0]) ∧ Below w.heap.size w w' := by
      intro B d w hrow
      have := FWhole_any (c := d) w hrow (by unfold maxLen; omega)
      unfold WholeIs at this
      rw [rs_of, HW.out] at this
      dsimp only at this
      rw [mk_lst] at this
      exact this
    clear hwr hR hl200
    go_wp2_with fail
    with_reducible refine (hrunS _).mono ?_
    rintro e w3 ⟨v, rfl, hown, hb⟩
    obtain ⟨B, d, rfl, _, hrow⟩ := hown.row
    have HB3 := hid (bl_then HB2.out hb)
    have HR3 := hid (HR2.out.keep hb)
    have HS3 := hid hrow
    clear hown hb hrow HB2 HR2
    go_wp2_with fail
    with_reducible refine (hwhole _ _ _ HS3.out).mono ?_
    rintro e w4 ⟨rfl, hb⟩
    have HB4 := hid (bl_then HB3.out hb)
    have HR4 := hid (HR3.out.keep hb)
    clear hb HB3 HR3 HS3 hrunS hwhole
    have hwh := FWhole_any (c := c) _ HR4.out hnm
    unfold WholeIs at hwh
    rw [← HJ.out] at hwh
    have HWH := hid hwh
    clear hwh
    obtain ⟨j, u⟩ := J
    by_cases h0 : j = 0
    · subst h0
      obtain ⟨t, ht⟩ : ∃ t, t = mkS u := ⟨_, rfl⟩
      have hts : t.size ≤ 200 := by rw [ht, mk_size]; exact hlen
      have hRu : Rm.runs (lst t) = rs h n := by rw [ht, lst_mk]; exact Rm.runs_whole HJ.out.symm
      have hrunT := fun w => FRuns_ok t w hts
      unfold RunsPost at hrunT
      simp only [hRu] at hrunT
      have hlR := rs_len h n
      have HT := hid ht
      have HLR := hid hlR
      have HRT := hid hrunT
      clear hlR hRu ht hrunT
      go_wp2_with fail
      with_reducible refine HWH.out.mono ?_
      rintro e w5 ⟨rfl, hb⟩
      dsimp only
      rw [← HT.out]
      have HB5 := hid (bl_then HB4.out hb)
      have HR5 := hid (HR4.out.keep hb)
      clear hb HB4 HR4 HWH
      go_wp2_with fail
      with_reducible refine (HRT.out _).mono ?_
      rintro e w6 ⟨v, rfl, hown, hb⟩
      obtain ⟨B6, d6, rfl, _, hrow⟩ := hown.row
      rw [HLR.out] at hrow ⊢
      have HB6 := hid (bl_then HB5.out hb)
      have HR6 := hid (HR5.out.keep hb)
      have HS6 := hid (hrow.congr (h' := h) fun k hk => rs_at hk)
      clear hown hb hrow HB5 HR5 HRT
      go_wp2_with fail
      with_reducible refine (requal_any HS6.out HR6.out hnm hnm).mono ?_
      rintro e w7 ⟨rfl, hd⟩
      have HB7 := hid (bl_then HB6.out (hd.below _))
      have he : eqR n n h h = true := eqR_true.2 ⟨rfl, fun _ _ => rfl⟩
      rw [he]
      clear hd HS6 HR6 HB6
      go_wp2
      go_ret
      exact ⟨rfl, HB7.out⟩
    · have hj : ((j : Int) != 0) = true := by simp; omega
      have hu : u = [] := HF.out h0
      subst hu
      clear h0
      go_wp2_with fail
      with_reducible refine HWH.out.mono ?_
      rintro e w5 ⟨rfl, hb⟩
      have HB5 := hid (bl_then HB4.out hb)
      clear hb HB4 HR4 HWH
      dsimp only
      go_wp2
      go_ret
      exact ⟨rfl, HB5.out⟩
  · have hwhole : ∀ (w : World), Calls Try.prog 12 #[.slice none 0 0] w fun e w' => e = .returned (.tuple #[.string (mkS []), .int .i64 0]) ∧ Below w.heap.size w w' := by
      intro w
      have := FWhole_any (A := none) (n := 0) (c := 0) (h := h) w (fun k hk => by omega) (by decide)
      unfold WholeIs at this
      rw [HNIL.out] at this
      exact this
    go_wp2_with fail
    with_reducible refine (FRuns_large s _ (by omega)).mono ?_
    rintro e w3 ⟨rfl, rfl⟩
    go_wp2_with fail
    with_reducible refine (hwhole _).mono ?_
    rintro e w4 ⟨rfl, hb⟩
    have HB4 := hid (bl_then HB2.out hb)
    have HR4 := hid (HR2.out.keep hb)
    clear hb HB2 HR2 hwhole
    have hwh := FWhole_any (c := c) _ HR4.out hnm
    unfold WholeIs at hwh
    rw [← HJ.out] at hwh
    have HWH := hid hwh
    clear hwh
    obtain ⟨j, u⟩ := J
    by_cases h0 : j = 0
    · subst h0
      obtain ⟨t, ht⟩ : ∃ t, t = mkS u := ⟨_, rfl⟩
      have hts : t.size ≤ 200 := by rw [ht, mk_size]; exact hlen
      have hRu : Rm.runs (lst t) = rs h n := by rw [ht, lst_mk]; exact Rm.runs_whole HJ.out.symm
      have hrunT := fun w => FRuns_ok t w hts
      unfold RunsPost at hrunT
      simp only [hRu] at hrunT
      have hlR := rs_len h n
      have HT := hid ht
      have HLR := hid hlR
      have HRT := hid hrunT
      clear hlR hRu ht hrunT
      go_wp2_with fail
      with_reducible refine HWH.out.mono ?_
      rintro e w5 ⟨rfl, hb⟩
      dsimp only
      rw [← HT.out]
      have HB5 := hid (bl_then HB4.out hb)
      have HR5 := hid (HR4.out.keep hb)
      clear hb HB4 HR4 HWH
      go_wp2_with fail
      with_reducible refine (HRT.out _).mono ?_
      rintro e w6 ⟨v, rfl, hown, hb⟩
      obtain ⟨B6, d6, rfl, _, hrow⟩ := hown.row
      rw [HLR.out] at hrow ⊢
      have HB6 := hid (bl_then HB5.out hb)
      have HR6 := hid (HR5.out.keep hb)
      have HS6 := hid (hrow.congr (h' := h) fun k hk => rs_at hk)
      clear hown hb hrow HB5 HR5 HRT
      go_wp2_with fail
      with_reducible refine (requal_any HS6.out HR6.out hnm hnm).mono ?_
      rintro e w7 ⟨rfl, hd⟩
      have HB7 := hid (bl_then HB6.out (hd.below _))
      have he : eqR n n h h = true := eqR_true.2 ⟨rfl, fun _ _ => rfl⟩
      rw [he]
      clear hd HS6 HR6 HB6
      go_wp2
      go_ret
      exact ⟨rfl, HB7.out⟩
    · have hj : ((j : Int) != 0) = true := by simp; omega
      have hu : u = [] := HF.out h0
      subst hu
      clear h0
      go_wp2_with fail
      with_reducible refine HWH.out.mono ?_
      rintro e w5 ⟨rfl, hb⟩
      have HB5 := hid (bl_then HB4.out hb)
      clear hb HB4 HR4 HWH
      dsimp only
      go_wp2
      go_ret
      exact ⟨rfl, HB5.out⟩
end Go.Proofs.Ythebjelkmopboaa
