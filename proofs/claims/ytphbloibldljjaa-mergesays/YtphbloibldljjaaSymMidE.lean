
/-
The contract of slices.symMergeCmpFunc at []api.Edit, with quillref.BothOf's closure: the way that calls itself.
-/
import Derived.Test.YtphbloibldljjaaSymE
namespace Go.Proofs.Ytphbloibldljjaa
open Go.RowKit

/-- Merging as it is asked for, of parts up to the length N. -/
def SymOkE (w0 : World) (b o n : Nat) (E : Nat → Es.Ev) (c : Nat) (R : Nat → Nat → Prop) (N : Nat) : Prop :=
  ∀ p m q g w, q - p ≤ N → SE w0 b o n E g w → St.Srt R p m g → St.Srt R m q g → St.Erl p m q g → p < m → m < q → q ≤ n →
    Calls Try.prog 58 #[.slice (some ⟨b, o, none⟩) n c, .int .i64 (p : Int), .int .i64 (m : Int), .int .i64 (q : Int), .func (.func 31) #[] #[]] w (MrgE w0 b o n E p q R g)
theorem SymOkE.at_ {w0 : World} {b o n : Nat} {E : Nat → Es.Ev} {c : Nat} {R : Nat → Nat → Prop} {N : Nat} (h : SymOkE w0 b o n E c R N) (p m q : Nat) (g : Nat → Nat) (w : World) (h0 : q - p ≤ N) (h1 : SE w0 b o n E g w) (h2 : St.Srt R p m g) (h3 : St.Srt R m q g) (h4 : St.Erl p m q g) (h5 : p < m) (h6 : m < q) (h7 : q ≤ n) :
    Calls Try.prog 58 #[.slice (some ⟨b, o, none⟩) n c, .int .i64 (p : Int), .int .i64 (m : Int), .int .i64 (q : Int), .func (.func 31) #[] #[]] w (MrgE w0 b o n E p q R g) := h p m q g w h0 h1 h2 h3 h4 h5 h6 h7
set_option maxRecDepth 100000 in
set_option maxHeartbeats 8000000 in
theorem symE_mid {E : Nat → Es.Ev} (w0 : World) (b o n c p m q N : Nat) (cf : Nat → Nat → Int) (R : Nat → Nat → Prop) (g : Nat → Nat) (w : World) (hC : CmpE E n cf) (O : St.Ord (ltE cf) R) (H : SE w0 b o n E g w)
    (IH : SymOkE w0 b o n E c R N) (hN : q - p ≤ N + 1)
    (h1 : St.Srt R p m g) (h2 : St.Srt R m q g) (he : St.Erl p m q g) (h12 : p + 1 < m) (h3 : m + 1 < q) (h4 : q ≤ n) (hn : n ≤ 1000) :
    Calls Try.prog 58 #[.slice (some ⟨b, o, none⟩) n c, .int .i64 (p : Int), .int .i64 (m : Int), .int .i64 (q : Int), .func (.func 31) #[] #[]] w (MrgE w0 b o n E p q R g) := by
  have HH := hid H
  have HC := hid hC
  have H1 := hid h1
  have H2 := hid h2
  have HE := hid he
  have HI := hid IH
  obtain ⟨u, hu⟩ : ∃ u, u = m - p := ⟨_, rfl⟩
  have eu : (m : Int) - (p : Int) = (u : Int) := by omega
  have hu1 : ((u : Int) == 1) = false := beq_eq_false_iff_ne.2 (by omega)
  have hun : u ≤ 1000 := by omega
  obtain ⟨v, hv⟩ : ∃ v, v = q - m := ⟨_, rfl⟩
  have ev : (q : Int) - (m : Int) = (v : Int) := by omega
  have hv1 : ((v : Int) == 1) = false := beq_eq_false_iff_ne.2 (by omega)
  have hvn : v ≤ 1000 := by omega
  obtain ⟨mid, hmid⟩ : ∃ mid, mid = (p + q) / 2 := ⟨_, rfl⟩
  have emid : ((p : Int) + (q : Int)) / 2 = (mid : Int) := by omega
  have hmidn : mid ≤ 1000 := by omega
  obtain ⟨nn, hnn⟩ : ∃ nn, nn = mid + m := ⟨_, rfl⟩
  have enn : (mid : Int) + (m : Int) = (nn : Int) := by omega
  have hnnn : nn ≤ 2000 := by omega
  obtain ⟨P, hP⟩ : ∃ P, nn = P + 1 := ⟨nn - 1, by omega⟩
  have eP : (nn : Int) - 1 = (P : Int) := by omega
  have hPn : P ≤ 2000 := by omega
  have HN := hid hN
  have HMID := hid hmid
  have HNN := hid hnn
  have HP := hid hP
  have SR : Hid (∃ s0 r0 : Nat, (mid < m → ((nn : Int) - (q : Int) = (s0 : Int)) ∧ r0 = mid) ∧ (¬ mid < m → s0 = p ∧ r0 = m) ∧ p ≤ s0 ∧ s0 ≤ r0 ∧ r0 ≤ m ∧ r0 ≤ mid ∧ P < q + s0 ∧ (s0 = p ∨ nn = q + s0) ∧ (r0 = m ∨ r0 = mid)) := by
    by_cases hmm : mid < m
    · exact ⟨nn - q, mid, fun _ => ⟨by omega, rfl⟩, fun h => absurd hmm h, by omega, by omega, by omega, by omega, by omega, .inr (by omega), .inr rfl⟩
    · exact ⟨p, m, fun h => absurd h hmm, fun _ => ⟨rfl, rfl⟩, by omega, by omega, by omega, by omega, by omega, .inl rfl, .inl rfl⟩
  obtain ⟨s0, r0, ea, eb, k1, k2, k3, k4, k5, k6, k7⟩ := SR.out
  have K6 := hid k6
  have K7 := hid k7
  have HA := hid ea
  have HB := hid eb
  clear H hC h1 h2 he hu hv hmid hnn hP SR IH k6 k7 ea eb hN
  by_cases hmm : mid < m
  case' pos =>
    have hmm' : (mid : Int) < (m : Int) := by omega
    have es0 := (HA.out hmm).1
  case' neg =>
    have hmm' : decide ((mid : Int) < (m : Int)) = false := decide_eq_false (by omega)
  all_goals
    go_enter Try.func58, Try.ntmps58
    go_wp2
    go_loopw [20, 21] (fun x y wr => ∃ i j : Nat, x = .int .i64 i ∧ y = .int .i64 j ∧ s0 ≤ i ∧ i ≤ j ∧ j ≤ r0 ∧ Hid (∀ z, s0 ≤ z → z < i → R (g z) (g (P - z))) ∧ Hid (∀ z, j ≤ z → z < r0 → R (g (P - z)) (g z)) ∧ Hid (SE w0 b o n E g wr)) (fun x y _ => (intOf y).toNat - (intOf x).toNat)
    case atStart =>
      refine ⟨s0, r0, ?_, ?_, by omega, by omega, by omega, hid (fun z z1 z2 => by omega), hid (fun z z1 z2 => by omega), HH⟩
      · first | rfl | rw [(HB.out hmm).1]
      · first | rw [(HA.out hmm).2] | rw [(HB.out hmm).2]
    case round =>
      clear HH
      obtain ⟨i, j, rfl, rfl, hmi, hij, hjq, HL, HR, HS⟩ := hrel
      have hnn := HNN.out
      have hP := HP.out
      by_cases hlt : i < j
      · obtain ⟨t, ht⟩ : ∃ t, t = (i + j) / 2 := ⟨_, rfl⟩
        have hlt' : (i : Int) < (j : Int) := by omega
        have et : ((i : Int) + (j : Int)) / 2 = (t : Int) := by omega
        have HT := hid ht
        have htn : t < n := by omega
        have htn' : (t : Int) < (n : Int) := by omega
        obtain ⟨d, hd⟩ : ∃ d, d = P - t := ⟨_, rfl⟩
        have ed : (P : Int) - (t : Int) = (d : Int) := by omega
        have hdn : d < n := by omega
        have hdn' : (d : Int) < (n : Int) := by omega
        have hwd : IntKind.i64.wrap (d : Int) = (d : Int) := IntWalk.i64_in _ (by omega)
        have hd0 : (0 : Int) ≤ (d : Int) := by omega
        obtain ⟨ct, ct1, ct2, fct, fct1, fct2⟩ := HS.out.row _ htn
        obtain ⟨cd, cd1, cd2, fcd, fcd1, fcd2⟩ := HS.out.row _ hdn
        have hlt0 : b < wr.drew.heap.size := HS.out.lt
        have HCC := hid (HC.out wr.drew (g d) (g t) (HS.out.val d hdn) (HS.out.val t htn))
        have hit : i ≤ t := by omega
        have htj : t < j := by omega
        obtain ⟨r, hr⟩ : ∃ r, r = cf (g d) (g t) := ⟨_, rfl⟩
        rw [← hr] at HCC
        rw [hd] at hr
        have HRR := hid hr
        obtain ⟨X, hX⟩ : ∃ X, X = E (g t) := ⟨_, rfl⟩
        obtain ⟨Y, hY⟩ : ∃ Y, Y = E (g d) := ⟨_, rfl⟩
        rw [← hX] at ct ct1 ct2 HCC
        rw [← hY] at cd cd1 cd2 HCC
        clear hX hY hr ht hd hnn hP
        by_cases hneg : r < 0
        · go_wp2
          go_region_held3 (fun W => W.cell? ⟨b, o + t * 3, none⟩ = some (.int .i64 X.a) ∧ W.cell? ⟨b, o + t * 3 + 1, none⟩ = some (.int .i64 X.d) ∧ W.cell? ⟨b, o + t * 3 + 2, none⟩ = some (.string X.s) ∧ W.cell? ⟨b, o + d * 3, none⟩ = some (.int .i64 Y.a) ∧ W.cell? ⟨b, o + d * 3 + 1, none⟩ = some (.int .i64 Y.d) ∧ W.cell? ⟨b, o + d * 3 + 2, none⟩ = some (.string Y.s)) (first | exact ⟨ct, ct1, ct2, cd, cd1, cd2⟩ | assumption) (first | (go_at_call 31; (with_reducible refine HCC.out.mono ?_); rintro e w8 ⟨rfl, hb8⟩; have hS8 := cellsE hb8 hlt0 ct ct1 ct2 cd cd1 cd2; have HS8 := hid ((HS.out.drewN 1).keep hb8); have HB8 := hid hb8; clear hb8))
          go_wp2
          go_roundw
          case measure => simp [intOf]; omega
          case rel =>
            have hnn := HNN.out
            have hP := HP.out
            refine ⟨i, t, rfl, rfl, hmi, hit, by omega, HL, hid ?_, HS8⟩
            exact St.mid_yes O H1.out H2.out HE.out (by omega) k3 (by omega) (by omega) (by omega) (by have := HRR.out; omega)
        · have hneg' : decide (r < 0) = false := decide_eq_false hneg
          go_wp2
          go_region_held3 (fun W => W.cell? ⟨b, o + t * 3, none⟩ = some (.int .i64 X.a) ∧ W.cell? ⟨b, o + t * 3 + 1, none⟩ = some (.int .i64 X.d) ∧ W.cell? ⟨b, o + t * 3 + 2, none⟩ = some (.string X.s) ∧ W.cell? ⟨b, o + d * 3, none⟩ = some (.int .i64 Y.a) ∧ W.cell? ⟨b, o + d * 3 + 1, none⟩ = some (.int .i64 Y.d) ∧ W.cell? ⟨b, o + d * 3 + 2, none⟩ = some (.string Y.s)) (first | exact ⟨ct, ct1, ct2, cd, cd1, cd2⟩ | assumption) (first | (go_at_call 31; (with_reducible refine HCC.out.mono ?_); rintro e w8 ⟨rfl, hb8⟩; have hS8 := cellsE hb8 hlt0 ct ct1 ct2 cd cd1 cd2; have HS8 := hid ((HS.out.drewN 1).keep hb8); have HB8 := hid hb8; clear hb8))
          go_wp2
          go_roundw
          case measure => simp [intOf]; omega
          case rel =>
            have hnn := HNN.out
            have hP := HP.out
            refine ⟨t + 1, j, by go_num, rfl, by omega, by omega, hjq, hid ?_, HR, HS8⟩
            exact St.mid_no O H1.out H2.out HE.out k1 (by omega) (by omega) (by omega) (by omega) (by have := HRR.out; omega)
      · have hlt' : decide ((i : Int) < (j : Int)) = false := decide_eq_false (by omega)
        obtain rfl : i = j := by omega
        obtain ⟨e, hee⟩ : ∃ e, e = nn - i := ⟨_, rfl⟩
        have ee : (nn : Int) - (i : Int) = (e : Int) := by omega
        have hen : e ≤ q := by omega
        have hei : e + i = mid + m := by omega
        have hem : m ≤ e := by omega
        have hme : mid ≤ e := by omega
        have hpi : p ≤ i := by omega
        have him : i ≤ m := by omega
        have himid : i ≤ mid := by omega
        have hpmid : p < mid := by have := HMID.out; omega
        have hmidq : mid < q := by have := HMID.out; omega
        have CUT : Hid (St.Cutd R p i mid e q (fun x => g (St.rotI i m e x))) := by
          refine St.cut_rot O H1.out H2.out HE.out hpi him himid hei hen (fun a1 a2 => ?_) (fun a1 a2 => ?_)
          · have := K6.out
            have := HL.out (i - 1) (by omega) (by omega)
            rw [show P - (i - 1) = e by omega] at this
            exact this
          · have := K7.out
            have := HR.out i (Nat.le_refl _) (by omega)
            rw [show P - i = e - 1 by omega] at this
            exact this
        have HNL : Hid (mid - p ≤ N) := by have := HN.out; show mid - p ≤ N; omega
        have HNR : Hid (q - mid ≤ N) := by have := HN.out; show q - mid ≤ N; omega
        have PIR := hid (St.PI.rot (a := p) (b := q) g hpi him hem hen)
        have hen1 : e ≤ 1000 := by omega
        clear hee HL HR hnn hP
        by_cases ha : i < m
        · have ha1 : (i : Int) < (m : Int) := by omega
          by_cases hb' : m < e
          · have hb1 : (m : Int) < (e : Int) := by omega
            have hd : i < mid := by omega
            have hd1 : (i : Int) < (mid : Int) := by omega
            have hf : mid < e := by omega
            have hf1 : (mid : Int) < (e : Int) := by omega
            by_cases hc : p < i
            · have hc1 : (p : Int) < (i : Int) := by omega
              by_cases hh : e < q
              · have hh1 : (e : Int) < (q : Int) := by omega
                go_wp2_with fail
                with_reducible refine (rotE_any w0 b o n c i m e _ g _ HS.out ha hb' (by omega) hn).mono ?_
                rintro _ w1 ⟨rfl, hs1⟩
                have HS1 := hid hs1
                clear hs1 HS
                go_wp2_with fail
                with_reducible refine (HI.out.at_ p i mid _ _ HNL.out HS1.out CUT.out.s1 CUT.out.s2 CUT.out.e1 hc hd (by omega)).mono ?_
                rintro _ w2 ⟨rfl, g2, pi2, st2, hs2⟩
                have PI2 := hid pi2
                have ST2 := hid st2
                have HS2 := hid hs2
                clear pi2 st2 hs2 HS1
                go_wp2_with fail
                with_reducible refine (HI.out.at_ mid e q g2 _ HNR.out HS2.out (CUT.out.s3.congr fun x x1 _ => PI2.out.out x (.inr x1)) (CUT.out.s4.congr fun x x1 _ => PI2.out.out x (.inr (by omega))) (CUT.out.e2.congr fun x x1 _ => PI2.out.out x (.inr x1)) hf hh h4).mono ?_
                rintro _ w3 ⟨rfl, g3, pi3, st3, hs3⟩
                have PI3 := hid pi3
                have ST3 := hid st3
                have HS3 := hid hs3
                clear pi3 st3 hs3 HS2
                go_wp2
                go_end0
                exact ⟨rfl, g3, (PIR.out.trans (PI2.out.mono (Nat.le_refl _) (by omega))).trans (PI3.out.mono (by omega) (Nat.le_refl _)), St.cut_join CUT.out PI2.out PI3.out ST2.out ST3.out, HS3.out⟩
              · have hh1 : decide ((e : Int) < (q : Int)) = false := decide_eq_false (by omega)
                go_wp2_with fail
                with_reducible refine (rotE_any w0 b o n c i m e _ g _ HS.out ha hb' (by omega) hn).mono ?_
                rintro _ w1 ⟨rfl, hs1⟩
                have HS1 := hid hs1
                clear hs1 HS
                go_wp2_with fail
                with_reducible refine (HI.out.at_ p i mid _ _ HNL.out HS1.out CUT.out.s1 CUT.out.s2 CUT.out.e1 hc hd (by omega)).mono ?_
                rintro _ w2 ⟨rfl, g2, pi2, st2, hs2⟩
                have PI2 := hid pi2
                have ST2 := hid st2
                have HS2 := hid hs2
                clear pi2 st2 hs2 HS1
                obtain ⟨g3, pi3, st3, hs3⟩ : ∃ g3, St.PI mid q g2 g3 ∧ St.Srt R mid q g3 ∧ SE w0 b o n E g3 _ := ⟨_, St.PI.refl _ _ _, CUT.out.right (fun x x1 => PI2.out.out x (.inr x1)) (by omega) (by omega) (by omega), HS2.out⟩
                have PI3 := hid pi3
                have ST3 := hid st3
                have HS3 := hid hs3
                clear pi3 st3 hs3 HS2
                go_wp2
                go_end0
                exact ⟨rfl, g3, (PIR.out.trans (PI2.out.mono (Nat.le_refl _) (by omega))).trans (PI3.out.mono (by omega) (Nat.le_refl _)), St.cut_join CUT.out PI2.out PI3.out ST2.out ST3.out, HS3.out⟩
            · have hc1 : decide ((p : Int) < (i : Int)) = false := decide_eq_false (by omega)
              by_cases hh : e < q
              · have hh1 : (e : Int) < (q : Int) := by omega
                go_wp2_with fail
                with_reducible refine (rotE_any w0 b o n c i m e _ g _ HS.out ha hb' (by omega) hn).mono ?_
                rintro _ w1 ⟨rfl, hs1⟩
                have HS1 := hid hs1
                clear hs1 HS
                obtain ⟨g2, pi2, st2, hs2⟩ : ∃ g2, St.PI p mid (fun x => g (St.rotI i m e x)) g2 ∧ St.Srt R p mid g2 ∧ SE w0 b o n E g2 _ := ⟨_, St.PI.refl _ _ _, CUT.out.left (by omega) (by omega) (by omega), HS1.out⟩
                have PI2 := hid pi2
                have ST2 := hid st2
                have HS2 := hid hs2
                clear pi2 st2 hs2 HS1
                go_wp2_with fail
                with_reducible refine (HI.out.at_ mid e q g2 _ HNR.out HS2.out (CUT.out.s3.congr fun x x1 _ => PI2.out.out x (.inr x1)) (CUT.out.s4.congr fun x x1 _ => PI2.out.out x (.inr (by omega))) (CUT.out.e2.congr fun x x1 _ => PI2.out.out x (.inr x1)) hf hh h4).mono ?_
                rintro _ w3 ⟨rfl, g3, pi3, st3, hs3⟩
                have PI3 := hid pi3
                have ST3 := hid st3
                have HS3 := hid hs3
                clear pi3 st3 hs3 HS2
                go_wp2
                go_end0
                exact ⟨rfl, g3, (PIR.out.trans (PI2.out.mono (Nat.le_refl _) (by omega))).trans (PI3.out.mono (by omega) (Nat.le_refl _)), St.cut_join CUT.out PI2.out PI3.out ST2.out ST3.out, HS3.out⟩
              · have hh1 : decide ((e : Int) < (q : Int)) = false := decide_eq_false (by omega)
                go_wp2_with fail
                with_reducible refine (rotE_any w0 b o n c i m e _ g _ HS.out ha hb' (by omega) hn).mono ?_
                rintro _ w1 ⟨rfl, hs1⟩
                have HS1 := hid hs1
                clear hs1 HS
                obtain ⟨g2, pi2, st2, hs2⟩ : ∃ g2, St.PI p mid (fun x => g (St.rotI i m e x)) g2 ∧ St.Srt R p mid g2 ∧ SE w0 b o n E g2 _ := ⟨_, St.PI.refl _ _ _, CUT.out.left (by omega) (by omega) (by omega), HS1.out⟩
                have PI2 := hid pi2
                have ST2 := hid st2
                have HS2 := hid hs2
                clear pi2 st2 hs2 HS1
                obtain ⟨g3, pi3, st3, hs3⟩ : ∃ g3, St.PI mid q g2 g3 ∧ St.Srt R mid q g3 ∧ SE w0 b o n E g3 _ := ⟨_, St.PI.refl _ _ _, CUT.out.right (fun x x1 => PI2.out.out x (.inr x1)) (by omega) (by omega) (by omega), HS2.out⟩
                have PI3 := hid pi3
                have ST3 := hid st3
                have HS3 := hid hs3
                clear pi3 st3 hs3 HS2
                go_wp2
                go_end0
                exact ⟨rfl, g3, (PIR.out.trans (PI2.out.mono (Nat.le_refl _) (by omega))).trans (PI3.out.mono (by omega) (Nat.le_refl _)), St.cut_join CUT.out PI2.out PI3.out ST2.out ST3.out, HS3.out⟩
          · first
            | exfalso; omega
            | have hb1 : decide ((m : Int) < (e : Int)) = false := decide_eq_false (by omega)
              have hd1 : decide ((i : Int) < (mid : Int)) = false := decide_eq_false (by omega)
              have hc1 : (p : Int) < (i : Int) := by omega
              have hf : mid < e := by omega
              have hf1 : (mid : Int) < (e : Int) := by omega
              have hh : e < q := by omega
              have hh1 : (e : Int) < (q : Int) := by omega
              have HS1 : Hid (SE w0 b o n E (fun x => g (St.rotI i m e x)) wr) := HS.out.congr fun x => by rw [show St.rotI i m e x = x by have := St.rotI_spec i m e x; omega]
              clear HS
              obtain ⟨g2, pi2, st2, hs2⟩ : ∃ g2, St.PI p mid (fun x => g (St.rotI i m e x)) g2 ∧ St.Srt R p mid g2 ∧ SE w0 b o n E g2 _ := ⟨_, St.PI.refl _ _ _, CUT.out.left (by omega) (by omega) (by omega), HS1.out⟩
              have PI2 := hid pi2
              have ST2 := hid st2
              have HS2 := hid hs2
              clear pi2 st2 hs2 HS1
              go_wp2_with fail
              with_reducible refine (HI.out.at_ mid e q g2 _ HNR.out HS2.out (CUT.out.s3.congr fun x x1 _ => PI2.out.out x (.inr x1)) (CUT.out.s4.congr fun x x1 _ => PI2.out.out x (.inr (by omega))) (CUT.out.e2.congr fun x x1 _ => PI2.out.out x (.inr x1)) hf hh h4).mono ?_
              rintro _ w3 ⟨rfl, g3, pi3, st3, hs3⟩
              have PI3 := hid pi3
              have ST3 := hid st3
              have HS3 := hid hs3
              clear pi3 st3 hs3 HS2
              go_wp2
              go_end0
              exact ⟨rfl, g3, (PIR.out.trans (PI2.out.mono (Nat.le_refl _) (by omega))).trans (PI3.out.mono (by omega) (Nat.le_refl _)), St.cut_join CUT.out PI2.out PI3.out ST2.out ST3.out, HS3.out⟩
        · first
          | exfalso; omega
          | have ha1 : decide ((i : Int) < (m : Int)) = false := decide_eq_false (by omega)
            have hc : p < i := by omega
            have hc1 : (p : Int) < (i : Int) := by omega
            have hf1 : decide ((mid : Int) < (e : Int)) = false := decide_eq_false (by omega)
            by_cases hd : i < mid
            · have hd1 : (i : Int) < (mid : Int) := by omega
              have HS1 : Hid (SE w0 b o n E (fun x => g (St.rotI i m e x)) wr) := HS.out.congr fun x => by rw [show St.rotI i m e x = x by have := St.rotI_spec i m e x; omega]
              clear HS
              go_wp2_with fail
              with_reducible refine (HI.out.at_ p i mid _ _ HNL.out HS1.out CUT.out.s1 CUT.out.s2 CUT.out.e1 hc hd (by omega)).mono ?_
              rintro _ w2 ⟨rfl, g2, pi2, st2, hs2⟩
              have PI2 := hid pi2
              have ST2 := hid st2
              have HS2 := hid hs2
              clear pi2 st2 hs2 HS1
              obtain ⟨g3, pi3, st3, hs3⟩ : ∃ g3, St.PI mid q g2 g3 ∧ St.Srt R mid q g3 ∧ SE w0 b o n E g3 _ := ⟨_, St.PI.refl _ _ _, CUT.out.right (fun x x1 => PI2.out.out x (.inr x1)) (by omega) (by omega) (by omega), HS2.out⟩
              have PI3 := hid pi3
              have ST3 := hid st3
              have HS3 := hid hs3
              clear pi3 st3 hs3 HS2
              go_wp2
              go_end0
              exact ⟨rfl, g3, (PIR.out.trans (PI2.out.mono (Nat.le_refl _) (by omega))).trans (PI3.out.mono (by omega) (Nat.le_refl _)), St.cut_join CUT.out PI2.out PI3.out ST2.out ST3.out, HS3.out⟩
            · have hd1 : decide ((i : Int) < (mid : Int)) = false := decide_eq_false (by omega)
              have HS1 : Hid (SE w0 b o n E (fun x => g (St.rotI i m e x)) wr) := HS.out.congr fun x => by rw [show St.rotI i m e x = x by have := St.rotI_spec i m e x; omega]
              clear HS
              obtain ⟨g2, pi2, st2, hs2⟩ : ∃ g2, St.PI p mid (fun x => g (St.rotI i m e x)) g2 ∧ St.Srt R p mid g2 ∧ SE w0 b o n E g2 _ := ⟨_, St.PI.refl _ _ _, CUT.out.left (by omega) (by omega) (by omega), HS1.out⟩
              have PI2 := hid pi2
              have ST2 := hid st2
              have HS2 := hid hs2
              clear pi2 st2 hs2 HS1
              obtain ⟨g3, pi3, st3, hs3⟩ : ∃ g3, St.PI mid q g2 g3 ∧ St.Srt R mid q g3 ∧ SE w0 b o n E g3 _ := ⟨_, St.PI.refl _ _ _, CUT.out.right (fun x x1 => PI2.out.out x (.inr x1)) (by omega) (by omega) (by omega), HS2.out⟩
              have PI3 := hid pi3
              have ST3 := hid st3
              have HS3 := hid hs3
              clear pi3 st3 hs3 HS2
              go_wp2
              go_end0
              exact ⟨rfl, g3, (PIR.out.trans (PI2.out.mono (Nat.le_refl _) (by omega))).trans (PI3.out.mono (by omega) (Nat.le_refl _)), St.cut_join CUT.out PI2.out PI3.out ST2.out ST3.out, HS3.out⟩
theorem symE_any {E : Nat → Es.Ev} (w0 : World) (b o n c : Nat) (cf : Nat → Nat → Int) (R : Nat → Nat → Prop) (hC : CmpE E n cf) (O : St.Ord (ltE cf) R) (hn : n ≤ 1000) : ∀ N, SymOkE w0 b o n E c R N
  | 0 => fun p m q g w h0 H h1 h2 he h12 h3 h4 => by omega
  | N + 1 => fun p m q g w h0 H h1 h2 he h12 h3 h4 => by
    by_cases ha : m = p + 1
    · exact symE_left w0 b o n c p m q cf R g w hC O H h2 he ha h3 h4 hn
    · by_cases hb : q = m + 1
      · exact symE_right w0 b o n c p m q cf R g w hC O H h1 he hb (by omega) h4 hn
      · exact symE_mid w0 b o n c p m q N cf R g w hC O H (symE_any w0 b o n c cf R hC O hn N) h0 h1 h2 he (by omega) (by omega) h4 hn
end Go.Proofs.Ytphbloibldljjaa
