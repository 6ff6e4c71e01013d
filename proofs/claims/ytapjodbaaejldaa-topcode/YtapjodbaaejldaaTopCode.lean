
/-
quilltop.TopCode: whatever word: it answers true.
-/
import Derived.Test.YtapjodbaaejldaaTopCodeC
namespace Go.Proofs.Ytapjodbaaejldaa
open Go.RowKit

theorem first_is {P : Nat → Prop} : ∀ n, (∃ k, k < n ∧ P k) → ∃ k, k < n ∧ P k ∧ ∀ j, j < k → ¬ P j
  | 0, h => by obtain ⟨k, hk, _⟩ := h; omega
  | n + 1, h => by
    by_cases q : ∃ k, k < n ∧ P k
    · obtain ⟨k, h1, h2, h3⟩ := first_is n q
      exact ⟨k, by omega, h2, h3⟩
    · obtain ⟨k, hk, hp⟩ := h
      have e : k = n := by
        rcases Nat.lt_or_ge k n with g | g
        · exact absurd ⟨k, g, hp⟩ q
        · omega
      exact ⟨k, hk, hp, fun j hj hpj => q ⟨j, by omega, hpj⟩⟩
theorem Tri.start (w : World) : Tri w w w.heap.size (.slice none 0 0) [] (.slice none 0 0) [] (.slice none 0 0) [] :=
  ⟨Below.refl _ _, Nat.le_refl _, OwnI.zero _ _, OwnI.zero _ _, OwnI.zero _ _, fun _ hk => (by cases hk), fun _ hk => (by cases hk), fun _ hk => (by cases hk)⟩
set_option maxHeartbeats 4000000 in
set_option maxRecDepth 100000 in
theorem topCode_walk (s : ByteArray) (_ : s.size ≤ maxLen) (w : World) :
    Calls Try.prog 9 #[.string s] w fun e w' => e = .returned (.bool true) ∧ Below w.heap.size w w' := by
  go_enter Try.func9, Try.ntmps9
  by_cases hs : s.size ≤ 200
  · go_wp2_with fail
    with_reducible refine (tc_put s _ hs).mono ?_
    rintro e w1 ⟨t, a, rfl, htz, htb, hb⟩
    have HB := hid hb
    have HTB := hid htb
    have ht200 : t.size ≤ 200 := by omega
    clear hb htb htz hs
    go_wp2_with fail
    with_reducible refine (tc_front t _ ht200).mono ?_
    rintro e w2 ⟨A, c, l, rfl, hrow, hfb, hb⟩
    have HB := hid (bl_then HB.out hb)
    have HROW := hid hrow
    have HFB := hid hfb
    obtain ⟨z, hz⟩ : ∃ z, z = t.size := ⟨_, rfl⟩
    rw [← hz] at HROW ht200 ⊢
    have HZ := hid hz
    clear hb hrow hfb hz
    go_wp2_with fail
    with_reducible refine (works_ok _).mono ?_
    rintro e w3 ⟨rfl, hb⟩
    have HB := hid (bl_then HB.out hb)
    have HROW := hid (HROW.out.keep hb)
    clear hb
    go_wp2
    go_loopw [8, 9, 10, 55] (fun v8 v9 v10 y W => ∃ (i : Nat) (S G T : List Int), i ≤ z ∧ y = .int .i64 (i : Int) ∧ Hid (Tri w3 W w3.heap.size v8 S v9 G v10 T) ∧ Hid (Cd l i S G T)) (fun _ _ _ y _ => z - (intOf y).toNat)
    case atStart => exact ⟨0, [], [], [], by omega, rfl, hid (Tri.start _), hid (Cd.zero _)⟩
    case round =>
      obtain ⟨i, S, G, T, hi, rfl, HT, HC⟩ := hrel
      by_cases hiz : i < z
      · have hizI : (i : Int) < (z : Int) := by omega
        have HRW := hid (HROW.out.keep HT.out.below)
        obtain ⟨bl, o, rfl, _, hc⟩ := HRW.out.at_ hiz
        obtain ⟨x, hx⟩ : ∃ x, x = l i := ⟨_, rfl⟩
        rw [← hx] at hc
        have HX := hid hx
        clear hx HRW
        have hSl := HC.out.sl
        obtain ⟨As, cs, hv8, hrs⟩ := HT.out.one.irow
        subst hv8
        by_cases hin : ∃ k, k < S.length ∧ S.getD k 0 = x
        · obtain ⟨k, hk, hke, hkf⟩ := first_is _ hin
          have HKE := hid hke
          have HIX := hid (fun (v : Int) (hv : S.getD k 0 = v) (hf : ∀ j, j < k → ¬ S.getD j 0 = v) => index_yes (c := cs) (v := v) hrs (by unfold maxLen; omega) hk hv hf)
          have HK := hid (HIX.out x hke hkf)
          have hGl := HC.out.gl
          obtain ⟨gb, gc, hv9, hgc, hgb, hgl⟩ := HT.out.two.at_ (by omega)
          subst hv9
          obtain ⟨cg, fg⟩ := HT.out.two.cell rfl (j := k) (by omega)
          obtain ⟨y, hy⟩ : ∃ y, y = G.getD k 0 := ⟨_, rfl⟩
          rw [← hy] at cg
          have hyb := HC.out.few k hk
          rw [← hy] at hyb
          have hwy : IntKind.i64.wrap (y + 1) = y + 1 := IntWalk.i64_in _ (by omega)
          have hkG : (k : Int) < (G.length : Int) := by omega
          have HT2 := hid (HT.out.store rfl hgb k (y + 1))
          have HC2 := hid (HC.out.old hk (by rw [HKE.out, HX.out]))
          rw [← hy] at HC2
          have hTl : T.length < 1000000 := by have := HC.out.tl; omega
          clear hin hke hkf HIX hrs hy hgl
          go_wp2_with fail
          with_reducible refine HK.out.mono ?_
          rintro e w4 ⟨rfl, rfl⟩
          clear HK
          have hsz := HT.out.size
          have hse : (wr.setCell ⟨gb, k, none⟩ (.int .i64 (y + 1))).heap.size = wr.heap.size := by simp
          have HSE := hid hse
          go_wp2_with (at_builtin; with_reducible refine app_int2 rfl _ _ rfl rfl HT2.out.three wr.heap.size hse rfl hsz hTl ?_)
          intro v' w5 h1 h2 h3 h4
          have HT3 := hid (HT2.out.app3 h1 h2 h3 (by rw [HSE.out]; exact h4))
          clear h1 h2 h3 h4 HT2 hsz HT hse HSE
          go_wp2
          go_roundw
          case measure => simp [intOf]; omega
          case rel =>
            rw [hGl] at HT3
            exact ⟨i + 1, S, _, _, by omega, by go_num, HT3, HC2⟩
        · have HIX := hid (index_no (c := cs) (v := x) hrs (by unfold maxLen; omega) (fun j hj e => hin ⟨j, hj, e⟩))
          have hGl := hid HC.out.gl
          have hsz := HT.out.size
          have hSl1 : S.length < 1000000 := by omega
          clear hrs hin
          go_wp2_with fail
          with_reducible refine HIX.out.mono ?_
          rintro e w4 ⟨rfl, rfl⟩
          clear HIX
          go_wp2_with (at_builtin; with_reducible refine app_int2 rfl _ _ rfl rfl HT.out.one _ rfl rfl hsz hSl1 ?_)
          intro s' w5 h1 h2 h3 h4
          have HT5 := hid (HT.out.app1 h1 h2 h3 h4)
          have hsz5 := HT5.out.size
          have hGl1 : G.length < 1000000 := by rw [hGl.out]; exact hSl1
          clear h1 h2 h3 h4 HT hsz
          go_wp2_with (at_builtin; with_reducible refine app_int2 rfl _ _ rfl rfl HT5.out.two _ rfl rfl hsz5 hGl1 ?_)
          intro g' w6 h1 h2 h3 h4
          have HT6 := hid (HT5.out.app2 h1 h2 h3 h4)
          have hsz6 := HT6.out.size
          clear h1 h2 h3 h4 HT5 hsz5 hGl1
          obtain ⟨gb, gc, hv9, hgc, hgb, hgl⟩ := HT6.out.two.at_ (by rw [List.length_append]; exact Nat.succ_pos _)
          subst hv9
          obtain ⟨G', hG'⟩ : ∃ G', G' = G ++ [0] := ⟨_, rfl⟩
          have HC2 := hid HC.out.new
          rw [← hG'] at HT6 hgc HC2 ⊢
          have hG1 : G'.length = S.length + 1 := by rw [hG', List.length_append, hGl.out]; rfl
          obtain ⟨cg, fg⟩ := HT6.out.two.cell rfl (j := S.length) (by omega)
          have hz0 : G'.getD S.length 0 = 0 := by rw [hG', ← hGl.out]; exact app_r G 0
          rw [hz0] at cg
          have hkG : (S.length : Int) < (G'.length : Int) := by omega
          have HG1 := hid hG1
          have HT7 := hid (HT6.out.store rfl hgb S.length 1)
          have hTl : T.length < 1000000 := by have := HC.out.tl; omega
          have hse : (w6.setCell ⟨gb, S.length, none⟩ (.int .i64 1)).heap.size = w6.heap.size := by simp
          have HSE := hid hse
          clear hz0 hG1 hG' hgl hgc
          go_wp2_with (at_builtin; with_reducible refine app_int2 rfl _ _ rfl rfl HT7.out.three w6.heap.size hse rfl hsz6 hTl ?_)
          intro t' w7 h1 h2 h3 h4
          have HT8 := hid (HT7.out.app3 h1 h2 h3 (by rw [HSE.out]; exact h4))
          rw [HX.out] at HT8
          clear h1 h2 h3 h4 HT6 HT7 hse HSE hsz6
          go_wp2
          go_roundw
          case measure => simp [intOf]; omega
          case rel => exact ⟨i + 1, _, _, _, by omega, by go_num, HT8, HC2⟩
      · obtain rfl : i = z := by omega
        have hizI : ¬ (i : Int) < (i : Int) := by omega
        obtain ⟨As, cs, hv8, hrs⟩ := HT.out.one.irow
        obtain ⟨Ag, cg, hv9, hcg⟩ := HT.out.two.cap
        obtain ⟨Ag', cg', hv9', hrg⟩ := HT.out.two.irow
        obtain ⟨At, ct, hv10, hrt⟩ := HT.out.three.irow
        rw [hv9] at hv9'
        obtain ⟨rfl, rfl⟩ : Ag = Ag' ∧ cg = cg' := by injection hv9' with h1 _ h3; exact ⟨h1, h3⟩
        have hbel := HT.out.below
        have hfew := HC.out.few
        have hat := HC.out.at_
        have hgl := HC.out.gl
        have htl := HC.out.tl
        have hsl := HC.out.sl
        subst hv8
        subst hv9
        subst hv10
        obtain ⟨n, hn⟩ : ∃ n, n = S.length := ⟨_, rfl⟩
        rw [← hn] at hrs hat hgl hsl hfew ⊢
        rw [hgl] at hrg hcg ⊢
        rw [htl] at hrt ⊢
        have HM := hid (tc_make wr hrg hcg (fun k hk => ⟨(hfew k hk).1, by have := (hfew k hk).2; omega⟩))
        have HB := hid (bl_then HB.out hbel)
        have HRS := hid hrs
        have HRT := hid hrt
        have HAT := hid hat
        clear hv9' hbel hfew hat hgl htl hn hrs hrg hrt hcg HT HC HROW
        go_wp2_with fail
        with_reducible refine HM.out.mono ?_
        rintro e w4 (⟨h12, B, m, d, rfl, hb⟩ | ⟨h12, B, d, r, rfl, hsr, hpb, hb⟩)
        · have hd : decide ((12 : Int) < (n : Int)) = true := decide_eq_true (by omega)
          have HB := hid (bl_then HB.out hb)
          clear hb HM
          go_wp2
          go_ret
          exact ⟨rfl, HB.out⟩
        · have hd : decide ((12 : Int) < (n : Int)) = false := decide_eq_false (by omega)
          have HB := hid (bl_then HB.out hb)
          have HRS := hid (HRS.out.keep hb)
          have HRT := hid (HRT.out.keep hb)
          have HSR := hid hsr
          have HPB := hid (hpb w4 At i ct _ hsr HRT.out (fun j hj => by obtain ⟨k, k1, k2, _⟩ := HAT.out j hj; rw [k1]; omega) ht200)
          clear hb hpb hsr HM
          go_wp2_with fail
          with_reducible refine HPB.out.mono ?_
          rintro e w5 ⟨bits, rfl, hb, hget⟩
          have HB := hid (bl_then HB.out hb)
          have HRS := hid (HRS.out.keep hb)
          have HG := hid (hget w5 (HSR.out.keep hb))
          clear hb hget HPB
          go_wp2_with fail
          with_reducible refine HG.out.mono ?_
          rintro e w6 ⟨D, f, rfl, hD, hb⟩
          have HB := hid (bl_then HB.out hb)
          have HRS := hid (HRS.out.keep hb)
          have HD := hid hD
          clear hb hD HG
          have hzz : Hid (∀ j, j < 3 → (w6.alloc (.cells #[.int .i64 0, .int .i64 0, .int .i64 0] 23)).cell? ⟨w6.heap.size, j, none⟩ = some (.int .i64 0)) := zeros_new w6 23 3
          go_wp2_with fail
          with_reducible refine (topGood_ok w6.heap.size 3 3 _ (by decide) hzz.out).mono ?_
          rintro e w7 ⟨rfl, rfl⟩
          have hb2 := bl_new w6 (.cells #[.int .i64 0, .int .i64 0, .int .i64 0] 23)
          have HB := hid (bl_then HB.out hb2)
          have HRS := hid (HRS.out.keep hb2)
          have HD := hid (HD.out.keep hb2)
          clear hzz hb2
          generalize (w6.alloc (.cells #[.int .i64 0, .int .i64 0, .int .i64 0] 23)) = w8 at *
          go_wp2
          go_loopw [20, 121] (fun v y W => ∃ j : Nat, j ≤ i ∧ y = .int .i64 (j : Int) ∧ Hid (OwnI W w8.heap.size v ((List.range j).map l)) ∧ Hid (Below w8.heap.size w8 W)) (fun _ y _ => i - (intOf y).toNat)
          case atStart => exact ⟨0, by omega, rfl, hid (OwnI.zero _ _), hid (Below.refl _ _)⟩
          case round =>
            obtain ⟨j, hj, rfl, HO, HBL⟩ := hrel
            by_cases hji : j < i
            · have hjiI : (j : Int) < (i : Int) := by omega
              obtain ⟨k, k1, k2, k3⟩ := HAT.out j hji
              obtain ⟨bd, od, rfl, _, cd⟩ := (HD.out.keep HBL.out).at_ hji
              obtain ⟨bs, os, rfl, _, cs2⟩ := (HRS.out.keep HBL.out).at_ k2
              rw [k1] at cd
              rw [k3] at cs2
              have hkn : (k : Int) < (n : Int) := by omega
              have hnk : decide ((n : Int) ≤ (k : Int)) = false := decide_eq_false (by omega)
              have hsz := HBL.out.size
              have hlen : ((List.range j).map l).length < 1000000 := by rw [List.length_map, List.length_range]; omega
              have HNX := hid (show (List.range (j + 1)).map l = (List.range j).map l ++ [l j] by rw [List.range_succ, List.map_append]; rfl)
              obtain ⟨x, hx⟩ : ∃ x, x = l j := ⟨_, rfl⟩
              rw [← hx] at cs2 HNX
              clear k1 k3 hx
              go_wp2_with (at_builtin; with_reducible refine app_int rfl _ _ rfl rfl HO.out _ rfl rfl hsz hlen ?_)
              intro v' w9 h1 h2
              rw [← HNX.out] at h1
              have HO2 := hid h1
              have HBL2 := hid (HBL.out.trans h2)
              clear h1 h2 HO HBL hsz
              go_wp2
              go_roundw
              case measure => simp [intOf]; omega
              case rel => exact ⟨j + 1, by omega, by go_num, HO2, HBL2⟩
            · obtain rfl : j = i := by omega
              have hjiI : ¬ (j : Int) < (j : Int) := by omega
              obtain ⟨Ab, cb, hvb, hrb⟩ := HO.out.irow
              subst hvb
              have hml : ((List.range j).map l).length = j := by rw [List.length_map, List.length_range]
              rw [hml] at hrb ⊢
              have hrb2 : IRow wr Ab t.size l := by
                rw [← HZ.out]
                refine hrb.congr fun k hk => ?_
                rw [List.getD_eq_getElem?_getD, List.getElem?_map, List.getElem?_range hk]; rfl
              have HF := hid (HFB.out Ab cb wr hrb2)
              rw [← HZ.out] at HF
              have HB := hid (bl_then HB.out HBL.out)
              clear hrb hrb2 hml HO HBL HD HRS
              go_wp2_with fail
              with_reducible refine HF.out.mono ?_
              rintro e w10 ⟨rfl, hb⟩
              have HB := hid (bl_then HB.out hb)
              have HTW := hid (HTB.out w10)
              clear hb HF
              go_wp2_with fail
              with_reducible refine HTW.out.mono ?_
              rintro e w11 ⟨rfl, hb⟩
              have HB := hid (bl_then HB.out hb)
              clear hb
              have hzz : Hid (∀ j, j < 2 → (w11.alloc (.cells #[.int .i64 0, .int .i64 0] 23)).cell? ⟨w11.heap.size, j, none⟩ = some (.int .i64 0)) := zeros_new w11 23 2
              have hss : (s.toList == s.toList) = true := by simp
              go_wp2_with fail
              with_reducible refine (topGood_ok w11.heap.size 2 2 _ (by decide) hzz.out).mono ?_
              rintro e w12 ⟨rfl, rfl⟩
              go_wp2
              go_ret
              exact ⟨rfl, bl_then HB.out (bl_new w11 _)⟩
  · go_wp2_with fail
    with_reducible refine (tc_large s _ (by omega)).mono ?_
    rintro e w1 ⟨rfl, rfl⟩
    go_wp2_with fail
    with_reducible refine (tc_front ByteArray.empty _ (by decide)).mono ?_
    rintro e w2 ⟨A, c, l, rfl, _, _, hb⟩
    have HB := hid hb
    clear hb
    go_wp2_with fail
    with_reducible refine (works_ok _).mono ?_
    rintro e w3 ⟨rfl, hb⟩
    have HB := hid (bl_then HB.out hb)
    clear hb
    go_wp2_with fail
    with_reducible refine (works_ok _).mono ?_
    rintro e w4 ⟨rfl, hb⟩
    have HB := hid (bl_then HB.out hb)
    clear hb
    go_wp2
    go_ret
    exact ⟨rfl, HB.out⟩
end Go.Proofs.Ytapjodbaaejldaa
