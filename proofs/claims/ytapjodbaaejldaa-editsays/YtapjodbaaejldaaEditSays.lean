
/-
quilllaw.EditSays: whatever a text, edits and two numbers: it answers true.
-/
import Derived.Test.YtapjodbaaejldaaEdits
import Derived.Test.YtapjodbaaejldaaEEqual
import Derived.Test.YtapjodbaaejldaaRefEd2
import Derived.Deep.Cut
import Derived.Deep.CutRange
namespace Go.Proofs.Ytapjodbaaejldaa
open Go.RowKit

/-- The law's own question: does an edit delete more than 40 bytes? -/
theorem over40_one (x : Es.Ev) (w : World) :
    Calls Try.prog 22 #[.agg #[.int .i64 x.a, .int .i64 x.d, .string x.s]] w fun e w' => e = .returned (.bool (decide (40 < x.d))) ∧ Below w.heap.size w w' := by
  obtain ⟨h0, h1, h2⟩ := ev_new w x 36
  have HB := hid (bl_new w (.cells #[.int .i64 x.a, .int .i64 x.d, .string x.s] 36))
  by_cases hx : 40 < x.d
  · have hd : decide (40 < x.d) = true := decide_eq_true hx
    rw [hd]
    go_enter Try.func22, Try.ntmps22
    go_wp2
    go_ret
    exact ⟨rfl, HB.out⟩
  · have hd : decide (40 < x.d) = false := decide_eq_false hx
    rw [hd]
    go_enter Try.func22, Try.ntmps22
    go_wp2
    go_ret
    exact ⟨rfl, HB.out⟩
theorem over40_index {A : Option Addr} {n c : Nat} {h : Nat → Es.Ev} (w : World) (hr : EvRow w A n h) (hn : n ≤ 1000) :
    Calls Try.prog 63 #[.slice A n c, .func (Fn.func 22) #[] #[]] w fun e w' =>
      Below w.heap.size w w' ∧ ((e = .returned (.int .i64 (-1)) ∧ ∀ k, k < n → (h k).d ≤ 40) ∨ ∃ i : Nat, i < n ∧ e = .returned (.int .i64 (i : Int)) ∧ 40 < (h i).d) := by
  have H := hid hr
  clear hr
  go_enter Try.func63, Try.ntmps63
  go_wp2
  go_loopw [8] (fun i wr => ∃ k : Nat, k ≤ n ∧ i = .int .i64 k ∧ Hid (∀ j, j < k → (h j).d ≤ 40) ∧ Hid (Below w.heap.size w wr)) (fun i _ => n - (intOf i).toNat)
  case atStart => exact ⟨0, by omega, rfl, hid (fun j hj => by omega), Below.refl _ _⟩
  case round =>
    obtain ⟨k, hk, rfl, HZ, HB⟩ := hrel
    by_cases hkn : k < n
    · obtain ⟨b, o, rfl, hlt, c0, c1, c2⟩ := (H.out.keep HB.out) k hkn
      have hkn' : (k : Int) < (n : Int) := by omega
      obtain ⟨x, hx⟩ : ∃ x, x = h k := ⟨_, rfl⟩
      have HX := hid hx
      rw [← hx] at c0 c1 c2
      clear hx
      go_wp2_with fail
      with_reducible refine (over40_one x _).mono ?_
      rintro e w1 ⟨he, hb1⟩
      have HB1 := hid (bl_then HB.out hb1)
      clear hb1 HB c0 c1 c2
      by_cases hl : 40 < x.d
      · rw [decide_eq_true hl] at he
        subst he
        have HL := hid hl
        clear hl
        go_wp2
        go_ret
        exact ⟨HB1.out, .inr ⟨k, hkn, rfl, by rw [← HX.out]; exact HL.out⟩⟩
      · rw [decide_eq_false hl] at he
        subst he
        have HL : Hid (x.d ≤ 40) := Int.not_lt.1 hl
        clear hl
        go_wp2
        go_roundw
        case measure => simp [intOf]; omega
        case rel =>
          refine ⟨k + 1, by omega, by go_num, hid (fun j hj => ?_), HB1⟩
          by_cases hjk : j < k
          · exact HZ.out j hjk
          · obtain rfl : j = k := by omega
            rw [← HX.out]
            exact HL.out
    · obtain rfl : k = n := by omega
      have hdl : decide ((k : Int) < (k : Int)) = false := decide_eq_false (by omega)
      go_wp2
      go_ret
      exact ⟨HB.out, .inl ⟨rfl, HZ.out⟩⟩
theorem over40_has {A : Option Addr} {n c : Nat} {h : Nat → Es.Ev} (w : World) (hr : EvRow w A n h) (hn : n ≤ 1000) :
    Calls Try.prog 21 #[.slice A n c, .func (Fn.func 22) #[] #[]] w fun e w' =>
      Below w.heap.size w w' ∧ ((e = .returned (.bool false) ∧ Es.Few (el h n)) ∨ (e = .returned (.bool true) ∧ ¬ Es.Few (el h n))) := by
  have hfew : (∀ k, k < n → (h k).d ≤ 40) → Es.Few (el h n) := fun q x hx => by
    unfold el at hx
    obtain ⟨k, hk, rfl⟩ := List.mem_map.1 hx
    exact q k (List.mem_range.1 hk)
  have hnot : ∀ i, i < n → 40 < (h i).d → ¬ Es.Few (el h n) := fun i hi hd q => by
    have := q (h i) (by unfold el; exact List.mem_map.2 ⟨i, List.mem_range.2 hi, rfl⟩)
    omega
  have HF := hid hfew
  have HN := hid hnot
  clear hfew hnot
  go_enter Try.func21, Try.ntmps21
  go_wp2_with fail
  with_reducible refine (over40_index _ hr hn).mono ?_
  rintro e w1 ⟨hb, ⟨rfl, hq⟩ | ⟨i, hi, rfl, hq⟩⟩
  · have HQ := hid (HF.out hq)
    clear hq hr
    go_wp2
    go_ret
    exact ⟨hb, .inl ⟨rfl, HQ.out⟩⟩
  · have HQ := hid (HN.out i hi hq)
    clear hq hr
    go_wp2
    go_ret
    exact ⟨hb, .inr ⟨rfl, HQ.out⟩⟩
/-- What undoes the i-th edit. -/
theorem und_at (s : List UInt8) : ∀ (L : List Es.Ev) (m : Int) (i : Nat), i < L.length → (Es.undL s m L).getD i Es.none_ = ⟨(L.getD i Es.none_).a + (m + Es.gro (L.take i)), ((L.getD i Es.none_).s.size : Int), mkS ((s.drop (L.getD i Es.none_).a.toNat).take (L.getD i Es.none_).d.toNat)⟩
  | [], _, _, h => by simp at h
  | x :: L, m, 0, _ => by
    have e : Es.gro ([] : List Es.Ev) = 0 := rfl
    rw [List.take_zero, e, Int.add_zero]; rfl
  | x :: L, m, i + 1, h => by
    have ih := und_at s L (m + ((x.s.size : Int) - x.d)) i (by simpa using h)
    have e1 : (Es.undL s m (x :: L)).getD (i + 1) Es.none_ = (Es.undL s (m + ((x.s.size : Int) - x.d)) L).getD i Es.none_ := rfl
    have e2 : (x :: L).getD (i + 1) Es.none_ = L.getD i Es.none_ := rfl
    rw [e1, e2, ih, List.take_succ_cons]
    simp only [Es.gro]
    refine Es.Ev.eq ?_ rfl rfl
    show (L.getD i Es.none_).a + (m + ((x.s.size : Int) - x.d) + Es.gro (L.take i)) = (L.getD i Es.none_).a + (m + ((x.s.size : Int) - x.d + Es.gro (L.take i)))
    omega

set_option maxHeartbeats 4000000 in
set_option maxRecDepth 100000 in
theorem editSays_walk (s : ByteArray) (A : Option Addr) (n c : Nat) (g : Nat → Es.Ev) (N at0 : Int) (w : World) (sa : s.size ≤ 140737488351232) (h : EvRow w A n g) (hw : ∀ k, k < n → EvWf (g k)) (hnc : n ≤ c) (hc : c ≤ maxLen) (wN : -9223372036854775808 ≤ N ∧ N ≤ 9223372036854775807) (wa : -9223372036854775808 ≤ at0 ∧ at0 ≤ 9223372036854775807) :
    Calls Try.prog 3 #[.string s, .slice A n c, .int .i64 N, .int .i64 at0] w fun e w' => e = .returned (.bool true) ∧ Below w.heap.size w w' := by
  have hnm : n ≤ maxLen := Nat.le_trans hnc hc
  have hsm : s.size ≤ maxLen := by unfold maxLen; omega
  have H := hid h
  have HW := hid hw
  have HNM := hid hnm
  have HSM := hid hsm
  have HNC := hid hnc
  have HWN := hid wN
  have HWA := hid wa
  obtain ⟨E1, hE1⟩ : ∃ E1, E1 = Es.eErr N (el g n) := ⟨_, rfl⟩
  obtain ⟨E2, hE2⟩ : ∃ E2, E2 = Es.eErr (s.size : Int) (el g n) := ⟨_, rfl⟩
  have HE1 := hid hE1
  have HE2 := hid hE2
  clear h hw hnm hsm hnc hc wN wa hE1 hE2
  go_enter Try.func3, Try.ntmps3
  go_wp2_with fail
  with_reducible refine (Apply_any s _ H.out HW.out HNM.out HSM.out).mono ?_
  rintro e w1 ⟨t, x, rfl, ha, hb1⟩
  have HB := hid hb1
  have HA := hid ha
  clear hb1 ha
  go_wp2_with fail
  with_reducible refine (Undo_any s _ (H.out.keep HB.out) HW.out HNM.out HSM.out).mono ?_
  rintro e w2 ⟨B, d, M, y, rfl, hMd, hu, hr, hb2⟩
  have HB := hid (bl_then HB.out hb2)
  have HU := hid hu
  have HR := hid hr
  clear hb2 hu hr
  go_wp2_with fail
  with_reducible refine (Place_any N at0 _ (H.out.keep HB.out) HW.out HNM.out HWN.out.1 HWN.out.2 HWA.out.1 HWA.out.2).mono ?_
  rintro e w3 ⟨v, b, z, rfl, hp, hb2⟩
  have HB := hid (bl_then HB.out hb2)
  have HR := hid (HR.out.keep hb2)
  have HP := hid hp
  clear hb2 hp
  go_wp2_with fail
  with_reducible refine (Check_any N _ (H.out.keep HB.out) HW.out HNM.out HWN.out.1 HWN.out.2).mono ?_
  rintro e w4 ⟨he, hb2⟩
  rw [← HE1.out] at he
  subst he
  have HB := hid (bl_then HB.out hb2)
  have HR := hid (HR.out.keep hb2)
  clear hb2
  go_wp2_with fail
  with_reducible refine (EditsErr_any N _ (H.out.keep HB.out)).mono ?_
  rintro e w5 ⟨he, hb2⟩
  rw [← HE1.out] at he
  subst he
  have HB := hid (bl_then HB.out hb2)
  have HR := hid (HR.out.keep hb2)
  clear hb2
  have hee : ((E1 : Int) != (E1 : Int)) = false := by simp
  go_wp2_with fail
  with_reducible refine (EditsErr_any N _ (H.out.keep HB.out)).mono ?_
  rintro e w6 ⟨he, hb2⟩
  rw [← HE1.out] at he
  subst he
  have HB := hid (bl_then HB.out hb2)
  have HR := hid (HR.out.keep hb2)
  clear hb2 hee
  obtain ⟨bb, HBB⟩ : ∃ bb : Bool, Hid ((bb = true ∧ E1 = 0 ∧ (at0 < 0 ∨ N < at0) ∧ z = 1 ∧ v = 0 ∧ b = false) ∨ (bb = false ∧ E1 ≠ 0 ∧ z = E1 ∧ v = 0 ∧ b = false) ∨ (bb = false ∧ E1 = 0 ∧ 0 ≤ at0 ∧ at0 ≤ N ∧ z = 0 ∧ v = (Es.plc at0 0 (el g n)).1 ∧ b = (Es.plc at0 0 (el g n)).2)) := by
    rcases HP.out with ⟨p1, p2, p3, p4⟩ | ⟨p1, p2, p3, p4, p5⟩ | ⟨p1, p2, p3, p4, p5, p6⟩
    · exact ⟨false, .inr (.inl ⟨rfl, by rw [HE1.out, ← p2]; exact p1, by rw [HE1.out]; exact p2, p3, p4⟩)⟩
    · exact ⟨true, .inl ⟨rfl, HE1.out.trans p1, p2, p3, p4, p5⟩⟩
    · exact ⟨false, .inr (.inr ⟨rfl, HE1.out.trans p1, p2, p3, p4, p5, p6⟩)⟩
  clear HP
  go_upto_region 7 with fail
  go_cut [61] from 21 (fun s61 wx => s61 = .bool bb ∧ w6 = wx)
  case first =>
    rcases HBB.out with ⟨rfl, hE, ho, hrest⟩ | ⟨rfl, hE, hrest⟩ | ⟨rfl, hE, h1, h2, hrest⟩
    · have hEz : (E1 == 0) = true := by rw [hE]; rfl
      clear HBB hE hrest
      by_cases ha0 : at0 < 0
      · have ha0' : decide (at0 < 0) = true := decide_eq_true ha0
        go_wp2
        go_meet
        exact ⟨rfl, rfl⟩
      · have ha0' : decide (at0 < 0) = false := decide_eq_false ha0
        have ha1 : N < at0 := by omega
        have ha1' : decide (N < at0) = true := decide_eq_true ha1
        go_wp2
        go_meet
        exact ⟨congrArg Value.bool (by first | (simp; done) | (simp; omega)), rfl⟩
    · have hEz : (E1 == 0) = false := beq_eq_false_iff_ne.2 hE
      clear HBB hE hrest
      go_wp2
      go_meet
      exact ⟨rfl, rfl⟩
    · have hEz : (E1 == 0) = true := by rw [hE]; rfl
      have ha0' : decide (at0 < 0) = false := decide_eq_false (by omega)
      have ha1' : decide (N < at0) = false := decide_eq_false (by omega)
      clear HBB hE hrest
      go_wp2
      go_meet
      exact ⟨rfl, rfl⟩
  case rest =>
    obtain ⟨rfl, rfl⟩ := hcut
    go_upto_if 61 with fail
    go_cut [16] from 21 (fun s16 wx => s16 = .int .i64 z ∧ w6 = wx)
    case first =>
      rcases HBB.out with ⟨rfl, q1, q2, hz, q3⟩ | ⟨rfl, q1, hz, q3⟩ | ⟨rfl, hE, q1, q2, hz, q3⟩
      · have HZ := hid hz
        clear HBB hz q1 q2 q3
        go_wp2
        go_meet
        exact ⟨by rw [HZ.out], rfl⟩
      · have HZ := hid hz
        clear HBB hz q1 q3
        go_wp2
        go_meet
        exact ⟨by rw [HZ.out], rfl⟩
      · have HZ := hid (hz.trans hE.symm)
        clear HBB hz hE q1 q2 q3
        go_wp2
        go_meet
        exact ⟨by rw [HZ.out], rfl⟩
    case rest =>
      obtain ⟨rfl, rfl⟩ := hcut
      have HQ : Hid ((z ≠ 0 ∧ v = 0 ∧ b = false) ∨ (z = 0 ∧ E1 = 0 ∧ 0 ≤ at0 ∧ at0 ≤ N ∧ v = (Es.plc at0 0 (el g n)).1 ∧ b = (Es.plc at0 0 (el g n)).2)) := by
        rcases HBB.out with ⟨_, _, _, p1, p2, p3⟩ | ⟨_, p0, p1, p2, p3⟩ | ⟨_, p0, p1, p2, p3, p4, p5⟩
        · exact .inl ⟨by rw [p1]; decide, p2, p3⟩
        · exact .inl ⟨by rw [p1]; exact p0, p2, p3⟩
        · exact .inr ⟨p3, p0, p1, p2, p4, p5⟩
      have hzz : ((z : Int) != (z : Int)) = false := by simp
      clear HBB
      go_upto_if 63 with fail
      go_cut [17, 18] from 21 (fun _ _ wx => Hid (Below w6.heap.size w6 wx))
      case first =>
        rcases HQ.out with ⟨hz, rfl, rfl⟩ | ⟨rfl, hE, ha0, haN, hv, hb⟩
        · have hz1 : (z != 0) = true := bne_iff_ne.2 hz
          clear HQ hz
          go_wp2
          go_meet
          exact Below.refl _ _
        · have hz1 : ((0 : Int) != 0) = false := rfl
          obtain ⟨a, rfl⟩ := Int.eq_ofNat_of_zero_le ha0
          obtain ⟨N', rfl⟩ : ∃ N' : Nat, N = (N' : Int) := Int.eq_ofNat_of_zero_le (by omega)
          have he := HE1.out.symm.trans hE
          obtain ⟨G, q, hs⟩ := Es.scr_of (s := List.replicate N' 0) (L := el g n) (by rw [List.length_replicate]; exact he)
          have hs' : Es.Scr (lst (mkS (List.replicate N' 0))) (el g n) G q := by rw [lst_mk]; exact hs
          have ha200 : a ≤ 1000 := by have := hs.from_; rw [List.length_replicate] at this; omega
          obtain ⟨V, hV⟩ : ∃ V, V = Es.plc (a : Int) 0 (el g n) := ⟨_, rfl⟩
          have HV := hid hV
          rw [← hV] at hv hb
          have HS := hid hs'
          clear HQ hE ha0 haN he hs hs' hV
          subst hv hb
          go_wp2_with fail
          with_reducible refine (PlaceOf_ok (mkS (List.replicate N' 0)) a _ (H.out.keep HB.out) HNC.out HS.out ha200).mono ?_
          rintro e w7 ⟨he, hb2⟩
          rw [← HV.out] at he
          subst he
          have e1 : (V.1 != V.1) = false := by simp
          have e2 : (V.2 != V.2) = false := by simp
          clear HS HV
          go_wp2
          go_meet
          exact hb2
      case rest =>
        have HB7 := hid (bl_then HB.out hcut.out)
        have HR7 := hid (HR.out.keep hcut.out)
        clear hcut HB HR HQ hzz
        generalize wc = w7 at *
        go_wp2_with fail
        with_reducible refine (EditsErr_any (s.size : Int) _ (H.out.keep HB7.out)).mono ?_
        rintro e w8 ⟨he, hb2⟩
        rw [← HE2.out] at he
        subst he
        have HB := hid (bl_then HB7.out hb2)
        have HR := hid (HR7.out.keep hb2)
        clear hb2 HB7 HR7
        by_cases hE : E2 = 0
        · have hEz : (E2 != 0) = false := by rw [hE]; rfl
          have HEZ := hid hE
          obtain ⟨G, q, hs⟩ := Es.scr_of (s := lst s) (L := el g n) (by rw [lst_len, ← HE2.out]; exact hE)
          obtain ⟨rfl, ht⟩ := HA.out.ok hs
          have HS := hid hs
          have HT := hid ht
          clear hE hs ht HA
          go_wp2_with fail
          with_reducible refine (Done_ok s _ (H.out.keep HB.out) HS.out).mono ?_
          rintro e w9 ⟨he, hb2⟩
          rw [← HT.out] at he
          subst he
          have HB := hid (bl_then HB.out hb2)
          have HR := hid (HR.out.keep hb2)
          have htt : (t.toList == t.toList) = true := by simp
          clear hb2
          have hn20 := (scr_small HS.out).1
          have hn1000 : n ≤ 1000 := by omega
          go_wp2_with fail
          with_reducible refine (over40_has _ (H.out.keep HB.out) hn1000).mono ?_
          rintro e w10 ⟨hb2, ⟨rfl, hf⟩ | ⟨rfl, hf⟩⟩
          · have HB := hid (bl_then HB.out hb2)
            have HR := hid (HR.out.keep hb2)
            obtain ⟨rfl, hM⟩ := HU.out.ok HS.out hf
            have hlt : lst t = Es.dst G q := by rw [HT.out, lst_mk]
            have hsu : Es.Scr (lst t) M (G.map Es.swp) q := by rw [hlt, hM]; exact HS.out.undo hf
            have hMl : M.length = n := by rw [hM, Es.evs_len, List.length_map, ← HS.out.len, el_len]
            have hMu : M = Es.undL (lst s) 0 (el g n) := by rw [hM, HS.out.und]
            have heu : Es.eErr (t.size : Int) (el (fun k => M.getD k Es.none_) M.length) = 0 := by
              rw [show el (fun k => M.getD k Es.none_) M.length = M from el_of M]
              have := hsu.err
              rw [lst_len] at this
              exact this
            have HEU := hid heu
            have HMU := hid hMu
            have HML := hid hMl
            rw [hMl] at HR HEU hMd ⊢
            have hnn : ((n : Int) != (n : Int)) = false := by simp
            clear hb2 hf hM hlt hsu hMl hMu heu HU htt
            go_wp2_with fail
            with_reducible refine (EditsErr_any (t.size : Int) _ HR.out).mono ?_
            rintro e w11 ⟨he, hb2⟩
            rw [HEU.out] at he
            subst he
            have HB := hid (bl_then HB.out hb2)
            have HR := hid (HR.out.keep hb2)
            clear hb2 HEU hnn
            go_wp2
            go_loopw [151] (fun i wr => ∃ k : Nat, k ≤ n ∧ i = .int .i64 (k : Int) ∧ Hid (Below w11.heap.size w11 wr)) (fun i _ => n - (intOf i).toNat)
            case atStart => exact ⟨0, by omega, rfl, Below.refl _ _⟩
            case round =>
              obtain ⟨k, hk, rfl, HB12⟩ := hrel
              have HBW := hid (bl_then HB.out HB12.out)
              by_cases hkn : k < n
              · have hkn' : (k : Int) < (n : Int) := by omega
                obtain ⟨b1, o1, rfl, hl1, c0, c1, c2⟩ := (H.out.keep HBW.out) k hkn
                obtain ⟨b2, o2, rfl, hl2, u0, u1, u2⟩ := (HR.out.keep HB12.out) k hkn
                obtain ⟨a, dd, e1, e2, e3, e4⟩ := scr_nat HS.out hkn
                have hund := und_at (lst s) (el g n) 0 k (by rw [el_len]; exact hkn)
                rw [← HMU.out, el_at hkn, el_take (by omega), Int.zero_add, e1, e2, Int.toNat_natCast, Int.toNat_natCast] at hund
                obtain ⟨xs, hxs⟩ : ∃ xs, xs = (g k).s := ⟨_, rfl⟩
                obtain ⟨zz, hzz⟩ : ∃ zz, zz = Es.gro (el g k) := ⟨_, rfl⟩
                have hzb := gro_small (scr_small HS.out).2.2 k (by omega)
                rw [← hzz] at hund hzb
                rw [← hxs] at hund c2 e4
                obtain ⟨ad, had⟩ : ∃ ad, ad = a + dd := ⟨_, rfl⟩
                have hstr : mkS (((lst s).drop a).take dd) = s.extract a ad := by
                  apply lst_inj_
                  rw [lst_mk, lst_mid, had]
                  congr 1; omega
                rw [hstr] at hund
                try simp only at u0 u1 u2
                rw [hund] at u0 u1 u2
                try simp only at u0 u1 u2
                rw [e1] at c0
                rw [e2] at c1
                have hadE : (a : Int) + (dd : Int) = (ad : Int) := by omega
                have hadw : IntKind.i64.wrap (ad : Int) = (ad : Int) := IntWalk.i64_in _ (by omega)
                have hzw : IntKind.i64.wrap ((a : Int) + zz) = (a : Int) + zz := IntWalk.i64_in _ (by omega)
                have ha0 : (0 : Int) ≤ (a : Int) := by omega
                have had0 : (0 : Int) ≤ (ad : Int) := by omega
                have haad : (a : Int) ≤ (ad : Int) := by omega
                have hads : (ad : Int) ≤ (s.size : Int) := by omega
                have hk0 : (0 : Int) ≤ (k : Int) := by omega
                have hkc : (k : Int) ≤ (c : Int) := by have := HNC.out; omega
                have hev := evB_same ((a : Int) + zz) (xs.size : Int) (s.extract a ad)
                have hnq := ev_neq
                have hgd := ev_guard
                have HZZ := hid hzz
                obtain ⟨x0, x1, x2⟩ := ev_new wr ⟨(a : Int), (dd : Int), xs⟩ 36
                try simp only at x0 x1 x2
                have hnl := bl_new wr (.cells #[.int .i64 (a : Int), .int .i64 (dd : Int), .string xs] 36)
                have v0 := (hnl.cell (p := ⟨b2, o2 + k * 3, none⟩) hl2).trans u0
                have v1 := (hnl.cell (p := ⟨b2, o2 + k * 3 + 1, none⟩) hl2).trans u1
                have v2 := (hnl.cell (p := ⟨b2, o2 + k * 3 + 2, none⟩) hl2).trans u2
                have hl2' := Nat.lt_of_lt_of_le hl2 hnl.size
                have hxl : wr.heap.size < (wr.alloc (.cells #[.int .i64 (a : Int), .int .i64 (dd : Int), .string xs] 36)).heap.size := by simp
                have HGR : Hid (EvRow (wr.alloc (.cells #[.int .i64 (a : Int), .int .i64 (dd : Int), .string xs] 36)).drew (some ⟨b1, o1, none⟩) k g) := (H.out.keep (HBW.out.alloc HBW.out.size _)).less (by omega)
                have HGB : Hid (∀ j, j < k → -1000000 ≤ ((g j).s.size : Int) - (g j).d ∧ ((g j).s.size : Int) - (g j).d ≤ 1000000) := fun j hj => (scr_small HS.out).2.2 j (by omega)
                have hk1000 : k ≤ 1000 := by omega
                have HBN := hid (HB12.out.alloc HB12.out.size (.cells #[.int .i64 (a : Int), .int .i64 (dd : Int), .string xs] 36))
                clear hund hstr had hxs hzz e1 e2 hnl hl2
                go_wp2
                go_region_held3 (fun W => W.cell? ⟨b2, o2 + k * 3, none⟩ = some (.int .i64 ((a : Int) + zz)) ∧ W.cell? ⟨b2, o2 + k * 3 + 1, none⟩ = some (.int .i64 (xs.size : Int)) ∧ W.cell? ⟨b2, o2 + k * 3 + 2, none⟩ = some (.string (s.extract a ad)) ∧ W.cell? ⟨wr.heap.size, 0, none⟩ = some (.int .i64 (a : Int)) ∧ W.cell? ⟨wr.heap.size, 1, none⟩ = some (.int .i64 (dd : Int)) ∧ W.cell? ⟨wr.heap.size, 2, none⟩ = some (.string xs)) (first | exact ⟨v0, v1, v2, x0, x1, x2⟩ | exact ⟨K0, K1, K2, K3, K4, K5⟩) (first | (go_at_call 23; (with_reducible refine (Grows_ok _ HGR.out hk1000 HGB.out).mono ?_); rintro e w8 ⟨he, hb8⟩; rw [← HZZ.out] at he; subst he; have K0 := (hb8.cell (p := ⟨b2, o2 + k * 3, none⟩) hl2').trans v0; have K1 := (hb8.cell (p := ⟨b2, o2 + k * 3 + 1, none⟩) hl2').trans v1; have K2 := (hb8.cell (p := ⟨b2, o2 + k * 3 + 2, none⟩) hl2').trans v2; have K3 := (hb8.cell (p := ⟨wr.heap.size, 0, none⟩) hxl).trans x0; have K4 := (hb8.cell (p := ⟨wr.heap.size, 1, none⟩) hxl).trans x1; have K5 := (hb8.cell (p := ⟨wr.heap.size, 2, none⟩) hxl).trans x2))
                all_goals (
                  have HB13 := hid (bl_then HBN.out.drew hb8)
                  clear hb8 K0 K1 K2 K3 K4 K5
                  go_wp2
                  go_roundw
                  case rel => exact ⟨k + 1, by omega, by go_num, HB13⟩
                  case measure => simp [intOf]; omega)
              · obtain rfl : k = n := by omega
                have hkd : decide ((k : Int) < (k : Int)) = false := decide_eq_false (by omega)
                go_wp2
                go_ret
                exact ⟨rfl, HBW.out⟩
          · have HB := hid (bl_then HB.out hb2)
            obtain ⟨rfl, rfl⟩ : y = 2 ∧ M = [] := by
              rcases HU.out with ⟨p1, p2, _⟩ | ⟨_, _, p3, p4⟩ | ⟨_, _, _, _, p, _⟩
              · exact absurd (p2.trans (HE2.out.symm.trans HEZ.out)) p1
              · exact ⟨p3, p4⟩
              · exact absurd p hf
            clear hb2 hf HU htt
            go_wp2
            go_ret
            exact ⟨rfl, HB.out⟩
        · have hEz : (E2 != 0) = true := bne_iff_ne.2 hE
          have hxE : x = E2 := by rw [HA.out.err, HE2.out]
          have ht := HA.out.none_ (by rw [hxE]; exact hE)
          obtain ⟨hyE, rfl⟩ := HU.out.err (by rw [← HE2.out]; exact hE)
          have hyE2 : y = E2 := by rw [hyE, HE2.out]
          subst hxE
          subst hyE2
          have hte : t.toList.isEmpty = true := no_bytes (by rw [ht]; rfl)
          have hxx : (y == y) = true := by simp
          clear hE ht hyE HA HU HE2
          go_wp2
          go_ret
          exact ⟨rfl, HB.out⟩
end Go.Proofs.Ytapjodbaaejldaa
