
/-
quillkeep.ShiftAlone: whatever two numbers and two rows of ops: it answers true.
-/
import Derived.Test.YtgkagigagcamoaaShifts
import Derived.Test.YtgkagigagcamoaaShUse
import Derived.Test.YtgkagigagcamoaaKeep
namespace Go.Proofs.Ytgkagigagcamoaa
open Go.RowKit

theorem AllIs.of_good {n : Int} {A B u v : List Sh.Op} {e : Int} (h : AllIs n A B u v e) (_ : N64 n) (hg : AllGood n A B) : e = 0 ∧ u = (Sh.allA A B).1 ∧ v = (Sh.allA A B).2 := by
  have h0 : e = 0 := h.1.trans (Sh.allErr_zero.2 ⟨hg.la, hg.lb, ⟨hg.ra, hg.ta⟩, hg.rb, hg.tb⟩)
  exact ⟨h0, (h.ok h0).2⟩
theorem rowOk_take : ∀ {L : List Sh.Op} {n : Int} (k : Nat), Sh.RowOk n L → Sh.RowOk n (L.take k)
  | _, _, 0, _ => trivial
  | [], _, _ + 1, _ => trivial
  | _ :: _, _, k + 1, h => ⟨h.1, rowOk_take k h.2⟩
theorem AllGood.none_ {n : Int} {A B : List Sh.Op} (h : AllGood n A B) : AllGood n A [] := by
  have h1 := h.ta
  have h2 := h.tb
  have h3 := Sh.tot_le B
  exact ⟨h.la, Nat.zero_le _, h.ra, trivial, by simp only [List.length_nil]; omega, by simp only [List.length_nil, Sh.tot]; omega⟩
theorem AllGood.take {n : Int} {A B : List Sh.Op} (h : AllGood n A B) {k : Nat} (hk : k ≤ A.length) : AllGood n (A.take k) B := by
  have h1 := h.ta
  have h2 := h.tb
  have h3 := Sh.tot_take A k
  have hl : (A.take k).length = k := by rw [List.length_take]; omega
  have hm : min k A.length = k := by omega
  rw [hm] at h3
  have h4 := h.la
  exact ⟨by rw [hl]; omega, h.lb, rowOk_take k h.ra, h.rb, by rw [hl]; omega, by rw [hl]; omega⟩
set_option maxHeartbeats 4000000 in
theorem shiftAlone_walk (N : Int) (A : Option Addr) (p c1 : Nat) (g : Nat → Sh.Op) (B : Option Addr) (q c2 : Nat) (h : Nat → Sh.Op) (k0 : Int) (w : World)
    (h1 : OpRow w A p g) (hw1 : ∀ k, k < p → OpWf (g k)) (hnc1 : p ≤ c1) (hc1 : c1 ≤ maxLen) (h2 : OpRow w B q h) (hw2 : ∀ k, k < q → OpWf (h k)) (hnc2 : q ≤ c2) (hc2 : c2 ≤ maxLen) (hN : -9223372036854775808 ≤ N ∧ N ≤ 9223372036854775807) :
    Calls Try.prog 8 #[.int .i64 N, .slice A p c1, .slice B q c2, .int .i64 k0] w fun e w' => e = .returned (.bool true) ∧ Below w.heap.size w w' := by
  have H1 : Hid (OpIn w A p g) := ⟨h1, hw1, Nat.le_trans hnc1 hc1⟩
  have H2 : Hid (OpIn w B q h) := ⟨h2, hw2, Nat.le_trans hnc2 hc2⟩
  have HN : Hid (N64 N) := hN
  clear h1 hw1 hc1 h2 hw2 hnc2 hc2 hN
  go_enter Try.func8, Try.ntmps8
  go_wp2_with fail
  with_reducible refine (shifts_ok _).mono ?_
  rintro e w1 ⟨rfl, hb⟩
  have HB := hid hb
  clear hb
  go_wp2_with fail
  with_reducible refine (All_any N _ (H1.out.keep HB.out) (H2.out.keep HB.out) HN.out).mono ?_
  rintro e w2 ⟨C, c, D, d, u, v, x, rfl, hall, hu, -, -, hb⟩
  replace HB := hid (bl_then HB.out hb)
  have HALL := hid hall
  have HU := hid hu.readAt
  have huc : u.length ≤ c := by
    obtain ⟨A', c', e, hl, _⟩ := hu.row
    injection e with e1 e2 e3
    omega
  have HUC := hid huc
  clear hb hall hu huc
  have HA2 := hid (All_any (c1 := c1) (c2 := 0) N w2 (H1.out.keep HB.out) (OpIn.none_ w2 g) HN.out)
  go_wp2_with fail
  with_reducible refine HA2.out.mono ?_
  rintro e w3 ⟨C2, c3, D2, d2, u2, v2, x2, rfl, hall2, hu2, -, -, hb⟩
  replace HB := hid (bl_then HB.out hb)
  have HALL2 := hid hall2
  have HU2 := hid hu2.readAt
  replace HU := hid (HU.out.keep hb)
  clear hb hall2 hu2 HA2
  by_cases hx : x = 0
  · subst hx
    have G := hid (HALL.out.good HN.out rfl)
    have g1 := G.out.la
    have g2 := G.out.lb
    rw [ol_len] at g1 g2
    have hl := Sh.all_len (ol g p) (ol h q)
    obtain ⟨-, eu, -⟩ := HALL.out.ok rfl
    have lu : u.length = p := by rw [eu, hl.1, ol_len]
    obtain ⟨rfl, eu2, ev2⟩ := HALL2.out.of_good HN.out G.out.none_
    have e0 : ol g 0 = [] := rfl
    rw [e0, Sh.all_nil] at eu2 ev2
    subst ev2
    have lu2 : u2.length = p := by rw [eu2, ol_len]
    have HEQ : Hid (∀ j, j < p → u2.getD j Sh.zero = g j) := fun j hj => by rw [eu2]; exact ol_at hj
    rw [lu] at HU HUC ⊢
    rw [lu2] at HU2 ⊢
    have hpm : p ≤ maxLen := small_len (by omega)
    have hwi : Hid (∀ W, Calls Try.prog 24 #[.int .i64 k0, .int .i64 ((p : Int) + 1)] W fun e w' => e = .returned (.int .i64 ((k0 % ((p + 1 : Nat) : Int)).toNat : Int)) ∧ W = w') := fun W => by
      have := within_any k0 (p + 1) W (by omega) (by omega)
      rw [show ((p + 1 : Nat) : Int) = (p : Int) + 1 by omega] at this ⊢
      exact this
    obtain ⟨k, hk⟩ : ∃ k, k = (k0 % ((p + 1 : Nat) : Int)).toNat := ⟨_, rfl⟩
    have hkp : k ≤ p := by
      have := Int.emod_lt_of_pos k0 (show (0 : Int) < ((p + 1 : Nat) : Int) by omega)
      omega
    rw [← hk] at hwi
    have hkc : (k : Int) ≤ (c1 : Int) := by omega
    have hkc2 : (k : Int) ≤ (c : Int) := by have := HUC.out; omega
    have hk0 : (0 : Int) ≤ (k : Int) := by omega
    have HG := hid (G.out.take (k := k) (by rw [ol_len]; exact hkp))
    have HT : Hid ((ol g p).take k = ol g k) := ol_take hkp
    have HEV : Hid ((Sh.allA (ol g k) (ol h q)).1 = u.take k) := by show _ = _; rw [← HT.out, Sh.all_take, eu]
    have HPM := hid hpm
    have LU := hid lu
    clear hl eu eu2 lu lu2 HALL HALL2 hpm hk e0
    go_wp2_with fail
    with_reducible refine (hwi.out _).mono ?_
    rintro e w3' ⟨rfl, rfl⟩
    have HA3 := hid (All_any (c1 := c1) (c2 := c2) N w3 (show OpIn w3 A k g from ⟨(H1.out.keep HB.out).row.less hkp, fun j hj => H1.out.wf j (by omega), Nat.le_trans hkp H1.out.len⟩) (H2.out.keep HB.out) HN.out)
    go_wp2_with fail
    with_reducible refine HA3.out.mono ?_
    rintro e w4 ⟨C4, c4, D4, d4, u4, v4, x4, rfl, hall4, hu4, -, -, hb⟩
    rw [← HT.out] at hall4
    obtain ⟨rfl, eu4, -⟩ := hall4.of_good HN.out HG.out
    rw [HT.out, HEV.out] at eu4
    have lu4 : u4.length = k := by rw [eu4, List.length_take]; have := LU.out; omega
    replace HB := hid (bl_then HB.out hb)
    have HU4 := hid hu4.readAt
    replace HU := hid (HU.out.keep hb)
    replace HU2 := hid (HU2.out.keep hb)
    rw [lu4] at HU4 ⊢
    have HEQ4 : Hid (∀ j, j < k → u4.getD j Sh.zero = u.getD j Sh.zero) := fun j hj => by
      rw [eu4]
      simp [List.getD_eq_getElem?_getD, hj]
    have HKM : Hid (k ≤ maxLen) := Nat.le_trans hkp HPM.out
    clear hb hall4 hu4 eu4 lu4 HA3
    go_wp2_with fail
    with_reducible refine (oequal_any HU2.out (H1.out.keep HB.out).row HPM.out HPM.out).mono ?_
    rintro e w5 ⟨he, hd⟩
    rw [eqO_same HEQ.out] at he
    subst he
    replace HB := hid (HB.out.trans (hd.below _))
    replace HU4 := hid (HU4.out.keep (hd.below _))
    replace HU := hid (HU.out.keep (hd.below _))
    clear hd HU2
    go_wp2_with fail
    with_reducible refine (oequal_any HU4.out (HU.out.less hkp) HKM.out HKM.out).mono ?_
    rintro e w6 ⟨he, hd⟩
    rw [eqO_same HEQ4.out] at he
    subst he
    replace HB := hid (HB.out.trans (hd.below _))
    clear hd
    go_wp2
    go_ret
    exact ⟨rfl, HB.out⟩
  · have hxx : (x != 0) = true := bne_iff_ne.2 hx
    obtain ⟨rfl, rfl⟩ := HALL.out.none_ hx
    clear hx HALL HALL2
    go_wp2
    go_ret
    exact ⟨rfl, HB.out⟩
end Go.Proofs.Ytgkagigagcamoaa
