/-
The walk of quillkeep.TreeLeast: it returns true for every list of weights and every list of lengths.
-/
import Derived.Test.YtppochjhodafdaaTrees
namespace Go.Proofs.Ytppochjhodafdaa
open Go.RowKit

set_option maxHeartbeats 1000000 in
theorem treeLeast_walk (A : Option Addr) (n c : Nat) (g : Nat → Int) (B : Option Addr) (m d : Nat) (l : Nat → Int) (w : World) (h : IRow w A n g) (hc : n ≤ c) (_ : n * 8 ≤ 140737488351232) (h2 : IRow w B m l) (hd : m ≤ d) (_ : m * 8 ≤ 140737488351232) :
    Calls Try.prog 4 #[.slice A n c, .slice B m d] w fun e w' => e = .returned (.bool true) ∧ Below w.heap.size w w' := by
  go_enter Try.func4, Try.ntmps4
  go_wp2_with fail
  with_reducible refine (trees_ok _).mono ?_
  rintro e w1 ⟨rfl, hb1⟩
  have H1 := hid (h.keep hb1)
  have L1 := hid (h2.keep hb1)
  clear h h2
  go_wp2_with fail
  with_reducible refine (Lens_any _ H1.out hc).mono ?_
  rintro e w2 ⟨⟨A2, m2, c2, rfl, hc2, hr2, z2, f2⟩, hb2⟩
  have H2 := hid (H1.out.keep hb2)
  have L2 := hid (L1.out.keep hb2)
  have R2 := hid hr2
  have HB2 := hid (bl_then hb1 hb2)
  clear hr2 hb1 hb2 H1 L1
  go_wp2_with fail
  with_reducible refine (Cost_any _ H2.out L2.out hc hd).mono ?_
  rintro e w3 ⟨rfl, hb3⟩
  have H3 := hid (H2.out.keep hb3)
  have L3 := hid (L2.out.keep hb3)
  have R3 := hid (R2.out.keep hb3)
  have HB3 := hid (bl_then HB2.out hb3)
  clear hb3 H2 L2 R2 HB2
  by_cases hE : Hm.wErr g n = 0
  · obtain rfl : m2 = n := f2 hE
    by_cases hT : Hm.tErr g m2 l m = 0
    · obtain ⟨_, hl, hmn⟩ := Hm.tErr_zero.1 hT
      subst hmn
      obtain ⟨q1, q2⟩ := lens_cost hE
      have hcost : Hm.tCost g m2 l m2 = ((Hm.ctot (Cm.ln g) (Cm.ln l) m2 : Nat) : Int) := by unfold Hm.tCost; rw [if_pos hT]
      have hsum : lSum l m2 = ((Cm.tot (Cm.ln l) m2 : Nat) : Int) := by unfold lSum; rw [if_pos hl]
      have hC := Cost_any w3 H3.out R3.out hc hc2
      rw [q1, q2] at hC
      have hln : ∀ k, k < m2 → 1 ≤ Cm.ln l k ∧ Cm.ln l k ≤ 12 := fun k hk => by
        have := (lErr_zero.1 hl).2 k hk
        unfold Cm.ln
        omega
      have HLe : Hid (Cm.tot (Cm.ln l) m2 ≤ 4096 → Hm.ctot (Cm.ln g) (lensF g m2) m2 ≤ Hm.ctot (Cm.ln g) (Cm.ln l) m2) := fun ht => (lensF_opt hE).least 12 (Cm.ln l) hln ht
      have hb12 := (Hm.wErr_zero.1 hE).1
      have k1 := Hm.ctot_le (w := Cm.ln g) (l := Cm.ln l) (n := m2) (fun k hk => by have := (Hm.ln_pos hE k hk).2.1; omega) (fun k hk => (hln k hk).2)
      have k2 := Hm.ctot_le (w := Cm.ln g) (l := lensF g m2) (n := m2) (fun k hk => by have := (Hm.ln_pos hE k hk).2.1; omega) (fun k hk => ((lensF_opt hE).len k hk).2)
      have k3 := Cm.tot_le (Cm.ln l) m2
      rw [hE, hT, hcost]
      clear z2 f2 hE hT hcost hln q1 q2
      generalize Hm.ctot (Cm.ln g) (lensF g m2) m2 = cd at hC HLe k2
      generalize Hm.ctot (Cm.ln g) (Cm.ln l) m2 = cc at HLe k1 ⊢
      go_wp2_with fail
      with_reducible refine hC.mono ?_
      rintro e w4 ⟨rfl, hb4⟩
      have L4 := hid (L3.out.keep hb4)
      have HB4 := hid (bl_then HB3.out hb4)
      clear hC hb4 H3 L3 R3 HB3
      go_wp2_with fail
      with_reducible refine (TSum_any _ L4.out).mono ?_
      rw [hl, hsum]
      rintro e w5 ⟨rfl, hb5⟩
      have HB5 := hid (bl_then HB4.out hb5)
      clear hb5 L4 HB4 hsum hl
      generalize Cm.tot (Cm.ln l) m2 = tt at HLe k3
      go_wp2_with fail
      with_reducible refine (good_ok _ 2 _ _ (by decide) (two_zeros _ _)).mono ?_
      rintro e w6 ⟨rfl, rfl⟩
      have HB6 := hid (bl_then HB5.out (bl_new w5 (.cells #[.int .i64 0, .int .i64 0] 23)))
      by_cases ht : 4096 < tt
      · have ht' : (4096 : Int) < (tt : Int) := by omega
        go_wp2
        go_ret
        exact ⟨rfl, HB6.out⟩
      · have ht' : decide ((4096 : Int) < (tt : Int)) = false := decide_eq_false (by omega)
        have hle : (cd : Int) ≤ (cc : Int) := by have := HLe.out (by omega); omega
        clear HLe
        go_wp2
        go_ret
        exact ⟨rfl, HB6.out⟩
    · have hT' : (Hm.tErr g m2 l m != 0) = true := bne_iff_ne.2 hT
      rw [hE]
      clear z2 f2 hE H3 L3 R3
      generalize Hm.tErr g m2 l m = t at hT hT'
      generalize Hm.tCost g m2 l m = u
      go_wp2
      go_ret
      exact ⟨rfl, HB3.out⟩
  · obtain rfl : m2 = 0 := z2 hE
    have hE' : (Hm.wErr g n != 0) = true := bne_iff_ne.2 hE
    have hE2 : (Hm.wErr g n == 0) = false := beq_eq_false_iff_ne.2 hE
    clear z2 f2 H3 L3 R3
    generalize Hm.wErr g n = t at hE hE' hE2
    generalize Hm.tErr g n l m = t2
    generalize Hm.tCost g n l m = u
    go_wp2
    go_ret
    exact ⟨rfl, HB3.out⟩
end Go.Proofs.Ytppochjhodafdaa
