/-
The walk of quillkeep.TreeHeavy: it returns true for every list of weights and every number.
-/
import Derived.Test.YtppochjhodafdaaTrees
namespace Go.Proofs.Ytppochjhodafdaa
open Go.RowKit

/-- The weights, b times as great. -/
def mulL (g : Nat → Int) (b i : Nat) : List Int := (List.range i).map fun k => (b : Int) * g k
theorem mulL_len (g : Nat → Int) (b i : Nat) : (mulL g b i).length = i := by unfold mulL; simp
theorem mulL_succ (g : Nat → Int) (b i : Nat) : mulL g b (i + 1) = mulL g b i ++ [(b : Int) * g i] := by unfold mulL; rw [List.range_succ, List.map_append]; rfl
def mulG (g : Nat → Int) (b n k : Nat) : Int := (mulL g b n).getD k 0
theorem mulG_get {g : Nat → Int} {b n k : Nat} (h : k < n) : mulG g b n k = (b : Int) * g k := by
  unfold mulG mulL
  rw [List.getD_eq_getElem?_getD, List.getElem?_map, List.getElem?_range h]
  rfl
theorem quiet_h {w w' : World} {d x : Nat} (h : w' = w.drewN (d + x)) : ∃ n, w' = w.drewN (d + n) := ⟨x, h⟩
set_option maxHeartbeats 4000000 in
set_option maxRecDepth 100000 in
theorem treeHeavy_walk (A : Option Addr) (n c : Nat) (g : Nat → Int) (by_ : Int) (w : World) (h : IRow w A n g) (hc : n ≤ c) (_ : n * 8 ≤ 140737488351232) :
    Calls Try.prog 6 #[.slice A n c, .int .i64 by_] w fun e w' => e = .returned (.bool true) ∧ Below w.heap.size w w' := by
  go_enter Try.func6, Try.ntmps6
  go_wp2_with fail
  with_reducible refine (trees_ok _).mono ?_
  rintro e w1 ⟨rfl, hb1⟩
  have H1 := hid (h.keep hb1)
  clear h
  go_wp2_with fail
  with_reducible refine (Lens_any _ H1.out hc).mono ?_
  rintro e w2 ⟨⟨A2, m2, c2, rfl, hc2, hr2, z2, f2⟩, hb2⟩
  have H2 := hid (H1.out.keep hb2)
  have R2 := hid hr2
  have HB2 := hid (bl_then hb1 hb2)
  clear hr2 hb1 hb2 H1
  by_cases hE : Hm.wErr g n = 0
  · obtain rfl : m2 = n := f2 hE
    have hn := (Hm.wErr_zero.1 hE).1
    have HE := hid hE
    rw [hE]
    clear z2 f2 hE
    go_wp2
    go_loopw [45] (fun y wr => ∃ i : Nat, i ≤ m2 ∧ y = .int .i64 (i : Int) ∧ Drew w2 wr) (fun y _ => m2 - (intOf y).toNat)
    case atStart => exact ⟨0, by omega, rfl, Drew.refl _⟩
    case round =>
      obtain ⟨i, hi, rfl, dd, rfl⟩ := hrel
      by_cases hlt : i < m2
      · have hlt' : (i : Int) < (m2 : Int) := by omega
        obtain ⟨b, o, rfl, _, hci⟩ := H2.out i hlt
        go_wp2
        go_loopw [52] (fun y wr => ∃ k : Nat, k ≤ m2 ∧ y = .int .i64 (k : Int) ∧ Drew w2 wr) (fun y _ => m2 - (intOf y).toNat)
        case atStart => exact ⟨0, by omega, rfl, Drew.is_ _ _⟩
        case round =>
          obtain ⟨k, hk, rfl, dd2, rfl⟩ := hrel
          by_cases hkt : k < m2
          · have hkt' : (k : Int) < (m2 : Int) := by omega
            obtain ⟨b', o', hA', _, hck⟩ := H2.out k hkt
            obtain ⟨rfl, rfl⟩ : b' = b ∧ o' = o := by injection hA' with e; injection e with e1 e2; exact ⟨e1.symm, e2.symm⟩
            obtain ⟨b2, o2, hA2, _, hli⟩ := R2.out i hlt
            obtain ⟨b3, o3, hA3, _, hlk⟩ := R2.out k hkt
            obtain ⟨rfl, rfl⟩ : b3 = b2 ∧ o3 = o2 := by rw [hA2] at hA3; injection hA3 with e; injection e with e1 e2; exact ⟨e1.symm, e2.symm⟩
            subst hA2
            have HHv : Hid (g k < g i → lensF g m2 i ≤ lensF g m2 k) := fun hw => (lensF_opt HE.out).heavy hlt hkt (by
              have h1 := (Hm.ln_pos HE.out i hlt).2.2
              have h2 := (Hm.ln_pos HE.out k hkt).2.2
              omega)
            have hli' : w2.cell? ⟨b3, o3 + i, none⟩ = some (.int .i64 ((lensF g m2 i : Nat) : Int)) := hli
            have hlk' : w2.cell? ⟨b3, o3 + k, none⟩ = some (.int .i64 ((lensF g m2 k : Nat) : Int)) := hlk
            have hgi := (Hm.wErr_zero.1 HE.out).2 i hlt
            have hgk := (Hm.wErr_zero.1 HE.out).2 k hkt
            clear hli hlk hA' hA3
            generalize g i = x at hci HHv hgi
            generalize g k = y at hck HHv hgk
            generalize lensF g m2 i = p at hli' HHv
            generalize lensF g m2 k = q at hlk' HHv
            by_cases hw : y < x
            · have hpq0 := HHv.out hw
              have hpq : decide ((q : Int) < (p : Int)) = false := decide_eq_false (by omega)
              have hpq2 : decide (q < p) = false := decide_eq_false (by omega)
              have hpq3 : ¬ q < p := by omega
              clear HHv
              go_wp2
              go_quiet (fail)
              go_wp2
              go_roundw
              case measure => simp [intOf]; omega
              case rel => exact ⟨k + 1, by omega, by go_num, Drew.is_ _ _⟩
            · have hw' : decide (y < x) = false := decide_eq_false hw
              clear HHv
              go_wp2
              go_quiet (fail)
              go_wp2
              go_roundw
              case measure => simp [intOf]; omega
              case rel => exact ⟨k + 1, by omega, by go_num, Drew.is_ _ _⟩
          · have hdl : decide ((k : Int) < (m2 : Int)) = false := decide_eq_false (by omega)
            go_wp2
            go_roundw
            case measure => simp [intOf]; omega
            case rel => exact ⟨i + 1, by omega, by go_num, Drew.is_ _ _⟩
      · have hdl : decide ((i : Int) < (m2 : Int)) = false := decide_eq_false (by omega)
        have H3 := hid (H2.out.drewN dd)
        have R3 := hid (R2.out.drewN dd)
        have HB3 := hid (bl_drewN HB2.out dd)
        clear H2 R2 HB2
        generalize w2.drewN dd = w3 at H3 R3 HB3 ⊢
        have hW : ∀ W, Calls Try.prog 20 #[.int .i64 by_, .int .i64 5] W fun e w' => e = .returned (.int .i64 ((by_ % 5).toNat : Int)) ∧ W = w' := fun W => within_any by_ 5 W (by decide) (by decide)
        obtain ⟨r, hr⟩ : ∃ r : Nat, r = (by_ % 5).toNat := ⟨_, rfl⟩
        have hr5 : r ≤ 4 := by omega
        rw [← hr] at hW
        clear hr
        go_wp2_with fail
        with_reducible refine (hW _).mono ?_
        rintro e w4 ⟨rfl, rfl⟩
        clear hW
        obtain ⟨bb, hbb⟩ : ∃ bb : Nat, bb = 1 + r := ⟨_, rfl⟩
        have hbb2 : 1 + (r : Int) = (bb : Int) := by omega
        have hbw : IntKind.i64.wrap (bb : Int) = (bb : Int) := IntWalk.i64_in _ (by omega)
        have hbb5 : bb ≤ 5 ∧ 1 ≤ bb := by omega
        clear hbb
        have HG : Hid (∀ k, k < m2 → 1 ≤ g k ∧ g k ≤ 10000) := (Hm.wErr_zero.1 HE.out).2
        go_wp2
        go_loopw [11, 78] (fun x y wr => ∃ (i : Nat) (v : Value), i ≤ m2 ∧ v = x ∧ y = .int .i64 (i : Int) ∧ Hid (OwnI wr w3.heap.size v (mulL g bb i)) ∧ Below w3.heap.size w3 wr) (fun _ y _ => m2 - (intOf y).toNat)
        case atStart => exact ⟨0, _, by omega, rfl, rfl, OwnI.zero _ _, Below.refl _ _⟩
        case round =>
          obtain ⟨i, v, hi, rfl, rfl, HO, hbel⟩ := hrel
          have hsz := hbel.size
          by_cases hlt : i < m2
          · have hlt' : (i : Int) < (m2 : Int) := by omega
            obtain ⟨b, o, rfl, _, hci⟩ := (H3.out.keep hbel) i hlt
            have hln : (mulL g bb i).length < 1000000 := by rw [mulL_len]; omega
            have hgi := HG.out i hlt
            have HS := hid (mulL_succ g bb i)
            have hpr : (bb : Int) * g i ≤ 50000 := by
              have h1 : (bb : Int) * g i ≤ 5 * g i := Int.mul_le_mul_of_nonneg_right (by omega) (by omega)
              omega
            have hpr0 : 0 ≤ (bb : Int) * g i := Int.mul_nonneg (by omega) (by omega)
            have hwm : IntKind.i64.wrap ((bb : Int) * g i) = (bb : Int) * g i := IntWalk.i64_in _ (by omega)
            go_wp2_with (at_builtin; with_reducible refine app_int rfl _ _ rfl rfl HO.out _ rfl rfl hsz hln ?_)
            intro v' w5 hown5 hb5
            rw [← HS.out] at hown5
            have HO5 := hid hown5
            have hbel5 := hbel.trans hb5
            clear hown5 hb5 HO HS
            go_wp2
            go_roundw
            case measure => simp [intOf]; omega
            case rel => exact ⟨i + 1, _, by omega, rfl, by go_num, HO5, hbel5⟩
          · have hdl : decide ((i : Int) < (m2 : Int)) = false := decide_eq_false (by omega)
            obtain rfl : m2 = i := by omega
            obtain ⟨A5, c5, hv, hrow5⟩ := HO.out.irow
            rw [mulL_len] at hv hrow5
            have hc5 : m2 ≤ c5 := by
              rcases HO.out.2 with ⟨e, e0⟩ | ⟨_, cap, _, e, _, _, e0, _⟩
              · rw [hv] at e
                injection e with _ e1 e2
                omega
              · rw [hv] at e
                injection e with _ e1 e2
                rw [mulL_len] at e0
                omega
            subst hv
            have M5 : Hid (IRow wr A5 m2 (mulG g bb m2)) := hrow5
            have H5 := hid (H3.out.keep hbel)
            have R5 := hid (R3.out.keep hbel)
            have HB5 := hid (bl_then HB3.out hbel)
            clear hrow5 HO H3 R3 HB3 hbel hsz
            go_wp2_with fail
            with_reducible refine (Lens_any _ M5.out hc5).mono ?_
            rintro e w6 ⟨⟨A6, m6, c6, rfl, hc6, hr6, z6, f6⟩, hb6⟩
            have H6 := hid (H5.out.keep hb6)
            have R6 := hid (R5.out.keep hb6)
            have M6 := hid (M5.out.keep hb6)
            have HB6 := hid (bl_then HB5.out hb6)
            have RR6 := hid hr6
            clear hr6 hb6 H5 R5 M5 HB5
            by_cases hF : Hm.wErr (mulG g bb m2) m2 = 0
            · obtain rfl : m6 = m2 := f6 hF
              obtain ⟨q1, q2⟩ := lens_cost HE.out
              obtain ⟨p1, p2⟩ := lens_cost hF
              have hC1 := Cost_any w6 H6.out R6.out hc hc2
              rw [q1, q2] at hC1
              have HTm : Hid (Hm.ctot (Cm.ln (mulG g bb m6)) (lensF (mulG g bb m6) m6) m6 = bb * Hm.ctot (Cm.ln g) (lensF g m6) m6) := by
                refine Hm.Opt.times (lensF_opt HE.out) (lensF_opt hF) (fun j hj => ?_)
                have h1 := (Hm.ln_pos hF j hj).2.2
                have h2 := (Hm.ln_pos HE.out j hj).2.2
                rw [mulG_get hj, ← h2] at h1
                have h3 : ((Cm.ln (mulG g bb m6) j : Nat) : Int) = ((bb * Cm.ln g j : Nat) : Int) := by rw [h1, Int.natCast_mul]
                omega
              have k1 := Hm.ctot_le (w := Cm.ln g) (l := lensF g m6) (n := m6) (fun k hk => by have := (Hm.ln_pos HE.out k hk).2.1; omega) (fun k hk => ((lensF_opt HE.out).len k hk).2)
              rw [hF]
              clear z6 f6 hF
              generalize Hm.ctot (Cm.ln g) (lensF g m6) m6 = cd at hC1 HTm k1 q2
              go_wp2_with fail
              with_reducible refine hC1.mono ?_
              rintro e w7 ⟨rfl, hb7⟩
              have M7 := hid (M6.out.keep hb7)
              have RR7 := hid (RR6.out.keep hb7)
              have HB7 := hid (bl_then HB6.out hb7)
              have hC2 := Cost_any w7 M7.out RR7.out hc5 hc6
              rw [p1, p2] at hC2
              clear hC1 hb7 H6 R6 M6 RR6 HB6 q1 q2 p1 p2
              obtain ⟨ce, hce⟩ : ∃ ce, ce = Hm.ctot (Cm.ln (mulG g bb m6)) (lensF (mulG g bb m6) m6) m6 := ⟨_, rfl⟩
              rw [← hce] at hC2 HTm
              clear hce
              go_wp2_with fail
              with_reducible refine hC2.mono ?_
              rintro e w8 ⟨rfl, hb8⟩
              have HB8 := hid (bl_then HB7.out hb8)
              clear hC2 hb8 M7 RR7 HB7
              go_wp2_with fail
              with_reducible refine (good_ok _ 2 _ _ (by decide) (two_zeros _ _)).mono ?_
              rintro e w9 ⟨rfl, rfl⟩
              have HB9 := hid (bl_then HB8.out (bl_new w8 (.cells #[.int .i64 0, .int .i64 0] 23)))
              have hmul : (bb : Int) * (cd : Int) = (ce : Int) := by rw [HTm.out, Int.natCast_mul]
              have hce2 : ce ≤ 36000000 := by
                rw [HTm.out]
                have h1 : bb * cd ≤ 5 * cd := Nat.mul_le_mul_right cd hbb5.1
                omega
              have hwc : IntKind.i64.wrap (ce : Int) = (ce : Int) := IntWalk.i64_in _ (by omega)
              have heq : ((ce : Int) == (ce : Int)) = true := by simp
              clear HTm
              go_wp2
              go_ret
              exact ⟨rfl, HB9.out⟩
            · have h1 : Hm.wErr (mulG g bb m2) m2 = 1 := by
                have h2 : Hm.wErr (mulG g bb m2) m2 = Hm.wnE (mulG g bb m2) m2 := by unfold Hm.wErr; rw [if_neg (by omega)]
                rcases Hm.wnE_two (mulG g bb m2) m2 with h3 | h3
                · rw [h3] at h2; exact absurd h2 hF
                · rw [h2, h3]
              rw [h1]
              clear z6 f6 hF h1 H6 R6 M6 RR6
              go_wp2
              go_ret
              exact ⟨rfl, HB6.out⟩
  · obtain rfl : m2 = 0 := z2 hE
    have hE' : (Hm.wErr g n != 0) = true := bne_iff_ne.2 hE
    clear z2 f2 H2 R2
    generalize Hm.wErr g n = t at hE hE'
    go_wp2
    go_ret
    exact ⟨rfl, HB2.out⟩
end Go.Proofs.Ytppochjhodafdaa
