
/-
The contracts of tree.Check, tree.Cost and tree.Make. (Walked of a stand-in: to be held against the code that lands.)
-/
import Derived.Test.YtmgkoliindicgaaTreeP
import Derived.Test.YtmgkoliindicgaaCodeS
namespace Go.Proofs.Ytmgkoliindicgaa
open Go.RowKit

theorem tcheck_any {A : Option Addr} {n c : Nat} {g : Nat → Int} (w : World) (h : IRow w A n g) :
    Calls Try.prog 49 #[.slice A n c] w fun e w' => e = .returned (.int .i64 (Hm.wErr g n)) ∧ w = w' := by
  by_cases hn : 12 < n
  · have e : Hm.wErr g n = 2 := by unfold Hm.wErr; rw [if_pos hn]
    rw [e]
    have h1 : (12 : Int) < (n : Int) := by omega
    clear e h
    go_enter Try.func49, Try.ntmps49
    go_wp2
    go_ret
    exact ⟨rfl, rfl⟩
  · have h1 : decide ((12 : Int) < (n : Int)) = false := decide_eq_false (by omega)
    have HE : Hid (Hm.wErr g n = Hm.wnE g n) := by show _ = _; unfold Hm.wErr; rw [if_neg hn]
    have H := hid h
    clear h
    go_enter Try.func49, Try.ntmps49
    go_wp2
    go_loopw [10] (fun y wr => ∃ i : Nat, i ≤ n ∧ y = .int .i64 (i : Int) ∧ Hid (∀ j, j < i → ¬ Hm.Off1 (g j)) ∧ w = wr) (fun y _ => n - (intOf y).toNat)
    case atStart => exact ⟨0, by omega, rfl, fun j hj => by omega, rfl⟩
    case round =>
      obtain ⟨i, hi, rfl, HI, rfl⟩ := hrel
      by_cases hlt : i < n
      · have hlt' : (i : Int) < (n : Int) := by omega
        obtain ⟨b, o, rfl, _, hc⟩ := H.out i hlt
        have HB : Hid (Hm.Off1 (g i) → Hm.wErr g n = 1) := fun hx => by rw [HE.out]; exact Hm.wnE_one hlt hx
        have HN : Hid (¬ Hm.Off1 (g i) → ∀ j, j < i + 1 → ¬ Hm.Off1 (g j)) := by
          intro hx j hj
          by_cases e : j = i
          · subst e; exact hx
          · exact HI.out j (by omega)
        clear HI
        generalize g i = x at hc HB HN
        by_cases h2 : x < 1
        · have HR := hid (HB.out (.inl h2))
          clear HB HN
          go_wp2
          go_ret
          rw [HR.out]
          exact ⟨rfl, rfl⟩
        · have h2' : decide (x < 1) = false := decide_eq_false h2
          by_cases h3 : 10000 < x
          · have HR := hid (HB.out (.inr h3))
            clear HB HN
            go_wp2
            go_ret
            rw [HR.out]
            exact ⟨rfl, rfl⟩
          · have h3' : decide (10000 < x) = false := decide_eq_false h3
            have HR := hid (HN.out fun hx => hx.elim h2 h3)
            clear HB HN
            go_wp2
            go_roundw
            case measure => simp [intOf]; omega
            case rel => exact ⟨i + 1, by omega, by go_num, HR, by trivial⟩
      · have hdl : decide ((i : Int) < (n : Int)) = false := decide_eq_false (by omega)
        have HR : Hid (Hm.wErr g n = 0) := by
          show _ = _
          rw [HE.out, Hm.wnE_zero]
          exact fun j hj => HI.out j (by omega)
        go_wp2
        go_ret
        rw [HR.out]
        exact ⟨rfl, rfl⟩
set_option maxHeartbeats 1000000 in
theorem cost_any {A B : Option Addr} {n m c d : Nat} {g l : Nat → Int} (w : World) (h : IRow w A n g) (hl : IRow w B m l) :
    Calls Try.prog 29 #[.slice A n c, .slice B m d] w fun e w' => e = .returned (.tuple #[.int .i64 (Hm.tCost g n l m), .int .i64 (Hm.tErr g n l m)]) ∧ w = w' := by
  have hK := tcheck_any (c := c) w h
  have hS := sum_any (c := d) w hl
  go_enter Try.func29, Try.ntmps29
  by_cases hE : Hm.wErr g n = 0
  · by_cases hL : Cm.lErr l m = 0
    · rw [hE] at hK
      rw [hL] at hS
      by_cases hmn : n = m
      · subst hmn
        have hT : Hm.tErr g n l n = 0 := Hm.tErr_zero.2 ⟨hE, hL, rfl⟩
        have hn := (Hm.wErr_zero.1 hE).1
        have HC : Hid (Hm.tCost g n l n = ((Hm.ctot (Cm.ln g) (Cm.ln l) n : Nat) : Int)) := by show _ = _; unfold Hm.tCost; rw [if_pos hT]
        have HW : Hid (∀ k, k < n → g k = ((Cm.ln g k : Nat) : Int) ∧ Cm.ln g k ≤ 10000) := fun k hk => ⟨(Hm.ln_pos hE k hk).2.2.symm, (Hm.ln_pos hE k hk).2.1⟩
        have HV : Hid (∀ k, k < n → l k = ((Cm.ln l k : Nat) : Int) ∧ Cm.ln l k ≤ 12) := fun k hk => by
          have := (lErr_zero.1 hL).2 k hk
          unfold Cm.ln
          omega
        have HT := hid hT
        have H := hid h
        have HL := hid hl
        clear h hl hE hL hT
        generalize lSum l n = su at hS
        go_wp2_with fail
        with_reducible refine hK.mono ?_
        rintro e w1 ⟨rfl, rfl⟩
        clear hK
        go_wp2_with fail
        with_reducible refine hS.mono ?_
        rintro e w1 ⟨rfl, rfl⟩
        clear hS
        go_wp2
        go_loopw [9, 32] (fun x y wr => ∃ i s : Nat, i ≤ n ∧ s ≤ i * 120000 ∧ x = .int .i64 (s : Int) ∧ y = .int .i64 (i : Int) ∧ Hid (s = Hm.ctot (Cm.ln g) (Cm.ln l) i) ∧ w = wr) (fun _ y _ => n - (intOf y).toNat)
        case atStart => exact ⟨0, 0, by omega, by omega, rfl, rfl, rfl, rfl⟩
        case round =>
          obtain ⟨i, s, hi, hs, rfl, rfl, HS, rfl⟩ := hrel
          by_cases hlt : i < n
          · have hlt' : (i : Int) < (n : Int) := by omega
            obtain ⟨b, o, rfl, _, hci⟩ := H.out i hlt
            obtain ⟨b2, o2, rfl, _, hli⟩ := HL.out i hlt
            obtain ⟨e1, h1⟩ := HW.out i hlt
            obtain ⟨e2, h2⟩ := HV.out i hlt
            rw [e1] at hci
            rw [e2] at hli
            have HS2 : Hid (s + Cm.ln g i * Cm.ln l i = Hm.ctot (Cm.ln g) (Cm.ln l) (i + 1)) := by
              show _ = Hm.ctot (Cm.ln g) (Cm.ln l) i + Cm.ln g i * Cm.ln l i
              rw [HS.out]
            clear HS e1 e2
            generalize Cm.ln g i = x at hci h1 HS2
            generalize Cm.ln l i = y at hli h2 HS2
            obtain ⟨z, hz⟩ : ∃ z : Nat, z = x * y := ⟨_, rfl⟩
            have hzz : (x : Int) * (y : Int) = (z : Int) := by rw [hz, Int.natCast_mul]
            have hzb : z ≤ 120000 := by rw [hz]; exact Nat.le_trans (Nat.mul_le_mul h1 h2) (by decide)
            have hzw : IntKind.i64.wrap (z : Int) = (z : Int) := IntWalk.i64_in _ (by omega)
            rw [← hz] at HS2
            clear hz
            go_wp2
            go_roundw
            case measure => simp [intOf]; omega
            case rel => exact ⟨i + 1, s + z, by omega, by omega, by go_num, by go_num, HS2, by trivial⟩
          · have hdl : decide ((i : Int) < (n : Int)) = false := decide_eq_false (by omega)
            obtain rfl : n = i := by omega
            go_wp2
            go_ret2
            rw [HT.out, HC.out, ← HS.out]
            exact ⟨rfl, rfl⟩
      · have hT : Hm.tErr g n l m = 3 := by unfold Hm.tErr; rw [if_neg (by simpa using hE), if_neg (by simpa using hL), if_pos hmn]
        have hC : Hm.tCost g n l m = 0 := by unfold Hm.tCost; rw [if_neg (by rw [hT]; decide)]
        have hmn' : ((n : Int) != (m : Int)) = true := bne_iff_ne.2 (by omega)
        rw [hT, hC]
        clear h hl hE hL hT hC
        generalize lSum l m = su at hS
        go_wp2_with fail
        with_reducible refine hK.mono ?_
        rintro e w1 ⟨rfl, rfl⟩
        clear hK
        go_wp2_with fail
        with_reducible refine hS.mono ?_
        rintro e w1 ⟨rfl, rfl⟩
        clear hS
        go_wp2
        go_ret2
        exact ⟨rfl, rfl⟩
    · have hT : Hm.tErr g n l m = Cm.lErr l m := by unfold Hm.tErr; rw [if_neg (by simpa using hE), if_pos hL]
      have hC : Hm.tCost g n l m = 0 := by unfold Hm.tCost; rw [if_neg (by rw [hT]; exact hL)]
      have hL' : (Cm.lErr l m != 0) = true := bne_iff_ne.2 hL
      rw [hT, hC]
      rw [hE] at hK
      clear h hl hE hT hC
      generalize lSum l m = su at hS
      generalize Cm.lErr l m = x at hL hL' hS ⊢
      go_wp2_with fail
      with_reducible refine hK.mono ?_
      rintro e w1 ⟨rfl, rfl⟩
      clear hK
      go_wp2_with fail
      with_reducible refine hS.mono ?_
      rintro e w1 ⟨rfl, rfl⟩
      clear hS
      go_wp2
      go_ret2
      exact ⟨rfl, rfl⟩
  · have hT : Hm.tErr g n l m = Hm.wErr g n := by unfold Hm.tErr; rw [if_pos hE]
    have hC : Hm.tCost g n l m = 0 := by unfold Hm.tCost; rw [if_neg (by rw [hT]; exact hE)]
    have hE' : (Hm.wErr g n != 0) = true := bne_iff_ne.2 hE
    rw [hT, hC]
    clear h hl hT hC hS
    generalize Hm.wErr g n = x at hE hE' hK ⊢
    go_wp2_with fail
    with_reducible refine hK.mono ?_
    rintro e w1 ⟨rfl, rfl⟩
    clear hK
    go_wp2
    go_ret2
    exact ⟨rfl, rfl⟩
theorem TMakePost.no {g : Nat → Int} {n : Nat} {w w' : World} {E : Int} (e : E = Hm.wErr g n) (h : E ≠ 0) (hb : Below w.heap.size w w') : TMakePost g n w (.returned (.tuple #[.slice none 0 0, .int .i64 E])) w' :=
  ⟨⟨none, 0, 0, by rw [e], Nat.le_refl _, fun k hk => by omega, fun _ => rfl, fun h2 => absurd (e.trans h2) h⟩, hb⟩
theorem TMakePost.ok {g : Nat → Int} {n c : Nat} {A : Option Addr} {w w' : World} (h : Hm.wErr g n = 0) (hc : n ≤ c) (hr : SRow w' A n (fun j => mkS (Cm.cw (lensF g n) n j))) (hb : Below w.heap.size w w') : TMakePost g n w (.returned (.tuple #[.slice A n c, .int .i64 0])) w' :=
  ⟨⟨A, n, c, by rw [h], hc, hr, fun h2 => absurd h h2, fun _ => rfl⟩, hb⟩
theorem lens_make {g : Nat → Int} {n : Nat} (h : Hm.wErr g n = 0) : mErr (fun k => ((lensF g n k : Nat) : Int)) n = 0 := by
  unfold mErr
  have h1 := lens_err h
  have h2 := (lensF_opt h).fit
  rw [if_neg (by simpa using h1), lens_ln, if_neg (by omega)]
/-- Over the contract of tree.Lens. -/
theorem tmake_any {A : Option Addr} {n c : Nat} {g : Nat → Int} (w : World) (hLens : Calls Try.prog 28 #[.slice A n c] w (LensPost g n w)) :
    Calls Try.prog 20 #[.slice A n c] w (TMakePost g n w) := by
  go_enter Try.func20, Try.ntmps20
  go_wp2_with fail
  with_reducible refine hLens.mono ?_
  rintro e w1 ⟨⟨A1, m1, c1, rfl, hc1, hr1, z1, f1⟩, hb1⟩
  clear hLens
  by_cases hE : Hm.wErr g n = 0
  · obtain rfl : m1 = n := f1 hE
    have hM := make_any (c := c1) w1 hr1
    have HM := hid (lens_make hE)
    have HE := hid hE
    rw [hE]
    clear z1 f1 hr1 hE
    go_wp2_with fail
    with_reducible refine hM.mono ?_
    rintro e w2 ⟨⟨A2, m2, c2, rfl, hc2, hr2, _, f2⟩, hb2⟩
    obtain rfl : m2 = m1 := f2 HM.out
    rw [HM.out]
    rw [lens_ln] at hr2
    have HR := hid hr2
    clear hM hr2 f2
    go_wp2
    go_ret2
    exact TMakePost.ok HE.out hc2 HR.out (bl_then hb1 hb2)
  · have hE' : (Hm.wErr g n != 0) = true := bne_iff_ne.2 hE
    obtain ⟨x, hx⟩ : ∃ x, x = Hm.wErr g n := ⟨_, rfl⟩
    have HX := hid hx
    rw [← hx] at hE hE' ⊢
    clear z1 f1 hr1 hx
    go_wp2
    go_ret2
    exact TMakePost.no HX.out hE hb1
end Go.Proofs.Ytmgkoliindicgaa
