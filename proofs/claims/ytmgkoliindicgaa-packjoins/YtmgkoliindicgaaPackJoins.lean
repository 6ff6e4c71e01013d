
/-
The walk of quillkeep.PackJoins: it returns true for every list of strings and whatever two lists of numbers.
-/
import Derived.Test.YtmgkoliindicgaaPacks
import Derived.Test.YtmgkoliindicgaaConcatI
namespace Go.Proofs.Ytmgkoliindicgaa
open Go.RowKit

theorem txW_rows (g : Nat → ByteArray) (gm : Nat → Int) (m : Nat) : txW g gm m = (rowN' gm m).map fun x => wd (g x.toNat) := by unfold txW rowN'; rw [List.map_map]; rfl
theorem inB_rows (gm : Nat → Int) (n m : Nat) : inB gm n m = (rowN' gm m).all fun x => decide (0 ≤ x) && decide (x < (n : Int)) := by unfold inB rowN'; rw [List.all_map]; rfl
theorem rowN'_list (L : List Int) : rowN' (fun k => L.getD k 0) L.length = L := by
  unfold rowN'
  refine List.ext_getElem (by simp) fun i h1 h2 => ?_
  simp [List.getD_eq_getElem?_getD, List.getElem?_eq_getElem h2]
theorem putE_two (g : Nat → ByteArray) (n : Nat) {ga gb gc : Nat → Int} {a b c : Nat} (ha : a ≤ 90) (hb : b ≤ 90) (hr : rowN' gc c = rowN' ga a ++ rowN' gb b) :
    ((putE g n ga a ≠ 0 ∨ putE g n gb b ≠ 0) ∧ putE g n gc c ≠ 0 ∧ putT g n gc c = []) ∨
    (putE g n ga a = 0 ∧ putE g n gb b = 0 ∧ putE g n gc c = 0 ∧ putT g n gc c = putT g n ga a ++ putT g n gb b) := by
  have hc : c = a + b := by
    have := congrArg List.length hr
    rwa [List.length_append, rowN'_len, rowN'_len, rowN'_len] at this
  have hin : inB gc n c = (inB ga n a && inB gb n b) := by rw [inB_rows, inB_rows, inB_rows, hr, List.all_append]
  have htx : tx g gc c = tx g ga a ++ tx g gb b := by unfold tx; rw [txW_rows, txW_rows, txW_rows, hr, List.map_append, List.flatten_append]
  by_cases hE : Cm.cErr (cws g n) = 0
  · have e1 : ∀ (gm : Nat → Int) (m : Nat), m ≤ 200 → putE g n gm m = if inB gm n m = false then 1 else 0 := fun gm m hm => by
      unfold putE
      rw [if_neg (by simpa using hE), if_neg (by omega)]
    have ea := e1 ga a (by omega)
    have eb := e1 gb b (by omega)
    have ec := e1 gc c (by omega)
    rw [hin] at ec
    cases hA : inB ga n a with
    | false =>
      rw [hA] at ea ec
      refine .inl ⟨.inl (by rw [ea]; simp), by rw [ec]; simp, ?_⟩
      unfold putT
      rw [if_neg (by rw [ec]; simp)]
    | true =>
      cases hB : inB gb n b with
      | false =>
        rw [hA, hB] at ec
        rw [hB] at eb
        refine .inl ⟨.inr (by rw [eb]; simp), by rw [ec]; simp, ?_⟩
        unfold putT
        rw [if_neg (by rw [ec]; simp)]
      | true =>
        rw [hA, hB] at ec
        rw [hA] at ea
        rw [hB] at eb
        have ea0 : putE g n ga a = 0 := ea
        have eb0 : putE g n gb b = 0 := eb
        have ec0 : putE g n gc c = 0 := ec
        refine .inr ⟨ea0, eb0, ec0, ?_⟩
        unfold putT
        rw [if_pos ea0, if_pos eb0, if_pos ec0, htx]
  · have e1 : ∀ (gm : Nat → Int) (m : Nat), putE g n gm m = Cm.cErr (cws g n) := fun gm m => by unfold putE; rw [if_pos hE]
    refine .inl ⟨.inl (by rw [e1]; exact hE), by rw [e1]; exact hE, ?_⟩
    unfold putT
    rw [if_neg (by rw [e1]; exact hE)]
theorem mk_app2 (l r : List UInt8) : (⟨(l ++ r).toArray⟩ : ByteArray) = ⟨l.toArray⟩ ++ ⟨r.toArray⟩ := by
  refine wd_inj ?_
  rw [wd_app, wd_mk, wd_mk, wd_mk]
set_option maxHeartbeats 1000000 in
theorem packJoins_walk (A : Option Addr) (n c : Nat) (g : Nat → ByteArray) (A1 : Option Addr) (n1 c1 : Nat) (g1 : Nat → Int) (A2 : Option Addr) (n2 c2 : Nat) (g2 : Nat → Int) (w : World) (h : SRow w A n g) (hc : n ≤ c) (_ : n * 16 ≤ 140737488351232) (h1 : IRow w A1 n1 g1) (hc1 : n1 ≤ c1) (hs1 : n1 * 8 ≤ 140737488351232) (h2 : IRow w A2 n2 g2) (hc2 : n2 ≤ c2) (hs2 : n2 * 8 ≤ 140737488351232) :
    Calls Try.prog 6 #[.slice A n c, .slice A1 n1 c1, .slice A2 n2 c2] w fun e w' => e = .returned (.bool true) ∧ Below w.heap.size w w' := by
  obtain ⟨m1, e1⟩ : ∃ m, m = min n1 90 := ⟨_, rfl⟩
  obtain ⟨m2, e2⟩ : ∃ m, m = min n2 90 := ⟨_, rfl⟩
  have q1 : min (n1 : Int) (90 : Int) = (m1 : Int) := by omega
  have q2 : min (n2 : Int) (90 : Int) = (m2 : Int) := by omega
  have l1 : m1 ≤ 90 := by omega
  have l2 : m2 ≤ 90 := by omega
  have k1 : m1 ≤ n1 := by omega
  have k2 : m2 ≤ n2 := by omega
  have p1 : (m1 : Int) ≤ (c1 : Int) := by omega
  have p2 : (m2 : Int) ≤ (c2 : Int) := by omega
  clear e1 e2
  go_enter Try.func6, Try.ntmps6
  go_wp2_with fail
  with_reducible refine (packs_ok _).mono ?_
  rintro e w1 ⟨rfl, hb1⟩
  have H1 := hid (h.keep hb1)
  have R1 := hid (IRow.keep (fun k hk => h1 k (by omega) : IRow w A1 m1 g1) hb1)
  have R2 := hid (IRow.keep (fun k hk => h2 k (by omega) : IRow w A2 m2 g2) hb1)
  have HB1 := hid hb1
  clear h h1 h2 hb1
  go_wp2
  go_quiet (fail)
  have H2 : Hid (SRow (w1.drewN nq) A n g) := H1.out
  have Q1 := hid (R1.out.drewN nq)
  have Q2 := hid (R2.out.drewN nq)
  have HB2 := hid (bl_drewN HB1.out nq)
  generalize w1.drewN nq = w2 at H2 Q1 Q2 HB2 ⊢
  clear H1 R1 R2 HB1 q1 q2
  go_wp2_with fail
  with_reducible refine (Put_any _ H2.out hc Q1.out).mono ?_
  rintro e w3 ⟨rfl, hb3⟩
  have H3 := hid (H2.out.keep hb3)
  have Q13 := hid (Q1.out.keep hb3)
  have Q23 := hid (Q2.out.keep hb3)
  have HB3 := hid (bl_then HB2.out hb3)
  clear hb3 H2 Q1 Q2 HB2
  go_wp2_with fail
  with_reducible refine (Put_any _ H3.out hc Q23.out).mono ?_
  rintro e w4 ⟨rfl, hb4⟩
  have H4 := hid (H3.out.keep hb4)
  have Q14 := hid (Q13.out.keep hb4)
  have Q24 := hid (Q23.out.keep hb4)
  have HB4 := hid (bl_then HB3.out hb4)
  clear hb4 H3 Q13 Q23 HB3
  have hb5 := bl_new w4 (.cells #[.slice A1 m1 c1, .slice A2 m2 c2] 23)
  have hP := partsI_two (c1 := c1) (c2 := c2) (t := 23) (N := w4.heap.size) rfl Q14.out Q24.out
  have hlen : (catI (twoN m1 m2) (twoG g1 g2) 2).length ≤ 100000 := by rw [catI_two, List.length_append, rowN'_len, rowN'_len]; omega
  have hCat := concatI_any w4.heap.size 0 2 2 (twoN m1 m2) (twoG g1 g2) _ (by simp) hP hlen (by omega)
  rw [catI_two] at hCat
  have H5 := hid (H4.out.keep hb5)
  have HB5 := hid (bl_then HB4.out hb5)
  clear hb5 hP hlen H4 Q14 Q24 HB4
  go_wp2_with fail
  with_reducible refine hCat.mono ?_
  rintro e w6 ⟨v6, rfl, ho6, hb6⟩
  have H6 := hid (H5.out.keep hb6)
  have HB6 := hid (bl_then HB5.out hb6)
  obtain ⟨A6, c6, hv6, hr6⟩ := ho6.irow
  subst hv6
  obtain ⟨L, hL⟩ : ∃ L, L = rowN' g1 m1 ++ rowN' g2 m2 := ⟨_, rfl⟩
  rw [← hL] at hr6 ⊢
  have R6 := hid hr6
  have hTwo := putE_two g n (ga := g1) (gb := g2) (gc := fun k => L.getD k 0) (c := L.length) l1 l2 (by rw [rowN'_list, hL])
  have HTwo := hid hTwo
  clear hTwo hr6 ho6 hb6 hL hCat H5 HB5
  go_wp2_with fail
  with_reducible refine (Put_any _ H6.out hc R6.out).mono ?_
  rintro e w7 ⟨rfl, hb7⟩
  have HB7 := hid (bl_then HB6.out hb7)
  clear hb7 HB6 H6 R6
  have hTwo := HTwo.out
  clear HTwo
  have hX := putT_le g n g1 m1
  have hY := putT_le g n g2 m2
  generalize putE g n (fun k => L.getD k 0) L.length = z at hTwo ⊢
  generalize putT g n (fun k => L.getD k 0) L.length = tz at hTwo ⊢
  generalize putE g n g1 m1 = x at hTwo ⊢
  generalize putE g n g2 m2 = y at hTwo ⊢
  generalize putT g n g1 m1 = tx1 at hTwo hX ⊢
  generalize putT g n g2 m2 = ty1 at hTwo hY ⊢
  rcases hTwo with ⟨h1, hz, rfl⟩ | ⟨rfl, rfl, rfl, rfl⟩
  · have hz' : (z != 0) = true := bne_iff_ne.2 hz
    by_cases hx : x = 0
    · have hy : y ≠ 0 := h1.resolve_left fun h => h hx
      subst hx
      have hy' : (y != 0) = true := bne_iff_ne.2 hy
      clear h1 hz
      go_wp2
      go_ret
      exact ⟨rfl, HB7.out⟩
    · have hx' : (x != 0) = true := bne_iff_ne.2 hx
      clear h1 hz
      go_wp2
      go_ret
      exact ⟨rfl, HB7.out⟩
  · have he : (⟨(tx1 ++ ty1).toArray⟩ : ByteArray) = ⟨tx1.toArray⟩ ++ ⟨ty1.toArray⟩ := mk_app2 _ _
    rw [he]
    have hX2 : (⟨tx1.toArray⟩ : ByteArray).size ≤ 2400 := by rw [← wd_len, wd_mk]; exact hX
    have hY2 : (⟨ty1.toArray⟩ : ByteArray).size ≤ 2400 := by rw [← wd_len, wd_mk]; exact hY
    clear hX hY he
    generalize (⟨tx1.toArray⟩ : ByteArray) = X at hX2 ⊢
    generalize (⟨ty1.toArray⟩ : ByteArray) = Y at hY2 ⊢
    have hse : ((X ++ Y).toList == (X ++ Y).toList) = true := by simp
    have hadd := fun W : World => run_string_add_sum (P := Try.prog) W X Y (by omega)
    go_wp2
    go_ret
    exact ⟨rfl, HB7.out⟩
end Go.Proofs.Ytmgkoliindicgaa
