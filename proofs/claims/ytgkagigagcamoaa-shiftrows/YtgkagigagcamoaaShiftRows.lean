
/-
quillkeep.ShiftRows: whatever a text and two rows of ops: it answers true.
-/
import Derived.Test.YtgkagigagcamoaaShifts
import Derived.Test.YtgkagigagcamoaaShRow
namespace Go.Proofs.Ytgkagigagcamoaa
open Go.RowKit

set_option maxHeartbeats 4000000 in
theorem shiftRows_walk (s : ByteArray) (A : Option Addr) (p c1 : Nat) (g : Nat → Sh.Op) (B : Option Addr) (q c2 : Nat) (h : Nat → Sh.Op) (w : World)
    (hs : s.size ≤ maxLen) (h1 : OpRow w A p g) (hw1 : ∀ k, k < p → OpWf (g k)) (hnc1 : p ≤ c1) (hc1 : c1 ≤ maxLen) (h2 : OpRow w B q h) (hw2 : ∀ k, k < q → OpWf (h k)) (hnc2 : q ≤ c2) (hc2 : c2 ≤ maxLen) :
    Calls Try.prog 6 #[.string s, .slice A p c1, .slice B q c2] w fun e w' => e = .returned (.bool true) ∧ Below w.heap.size w w' := by
  have H1 : Hid (OpIn w A p g) := ⟨h1, hw1, Nat.le_trans hnc1 hc1⟩
  have H2 : Hid (OpIn w B q h) := ⟨h2, hw2, Nat.le_trans hnc2 hc2⟩
  have HN : Hid (N64 (s.size : Int)) := by show N64 _; unfold N64; unfold maxLen at hs; omega
  clear h1 hw1 hnc1 hc1 h2 hw2 hnc2 hc2 hs
  go_enter Try.func6, Try.ntmps6
  go_wp2_with fail
  with_reducible refine (shifts_ok _).mono ?_
  rintro e w1 ⟨rfl, hb⟩
  have HB := hid hb
  clear hb
  go_wp2_with fail
  with_reducible refine (All_any (s.size : Int) _ (H1.out.keep HB.out) (H2.out.keep HB.out) HN.out).mono ?_
  rintro e w2 ⟨C, c, D, d, u, v, x, rfl, hall, hu, hv, -, hb⟩
  replace HB := hid (bl_then HB.out hb)
  have HALL := hid hall
  clear hb hall
  by_cases hx : x = 0
  · subst hx
    have G := hid (HALL.out.good HN.out rfl)
    have hl := Sh.all_len (ol g p) (ol h q)
    obtain ⟨-, eu, ev⟩ := HALL.out.ok rfl
    have HU : Hid (OpRow w2 C u.length (fun k => u.getD k Sh.zero)) := by
      obtain ⟨A', c', e, _, hr⟩ := hu.row
      injection e with e1 e2 e3
      subst e1
      exact hr
    have HV : Hid (OpRow w2 D v.length (fun k => v.getD k Sh.zero)) := by
      obtain ⟨A', c', e, _, hr⟩ := hv.row
      injection e with e1 e2 e3
      subst e1
      exact hr
    have lu : u.length = p := by rw [eu, hl.1, ol_len]
    have lv : v.length = q := by rw [ev, hl.2, ol_len]
    rw [lu] at HU ⊢
    rw [lv] at HV ⊢
    have g1 := G.out.la
    have g2 := G.out.lb
    rw [ol_len] at g1 g2
    have hro := Sh.rows_ok G.out.ra G.out.rb G.out.ta G.out.tb
    rw [← eu, ← ev] at hro
    have hmeet := Sh.all_meet (s := lst s) (by rw [lst_len]; exact Sh.rowOk_ok G.out.ra) (by rw [lst_len]; exact Sh.rowOk_ok G.out.rb)
    rw [← eu, ← ev] at hmeet
    have eolu : ol (fun k => u.getD k Sh.zero) p = u := by rw [← lu]; exact ol_of u
    have eolv : ol (fun k => v.getD k Sh.zero) q = v := by rw [← lv]; exact ol_of v
    obtain ⟨t1, ht1⟩ : ∃ t1, t1 = mkS (Sh.run (lst s) (ol h q)) := ⟨_, rfl⟩
    obtain ⟨u1, hu1⟩ : ∃ u1, u1 = mkS (Sh.run (lst s) (ol g p)) := ⟨_, rfl⟩
    have st : (t1.size : Int) = (s.size : Int) + Sh.tot (ol h q) := by rw [ht1]; exact run_size G.out.rb
    have su : (u1.size : Int) = (s.size : Int) + Sh.tot (ol g p) := by rw [hu1]; exact run_size G.out.ra
    have HTX : Hid (Sh.RowOk (t1.size : Int) (ol (fun k => u.getD k Sh.zero) p)) := by show Sh.RowOk _ _; rw [eolu, st]; exact hro.1
    have HUY : Hid (Sh.RowOk (u1.size : Int) (ol (fun k => v.getD k Sh.zero) q)) := by show Sh.RowOk _ _; rw [eolv, su]; exact hro.2
    have HUI : Hid (OpIn w2 C p (fun k => u.getD k Sh.zero)) := ⟨HU.out, fun k hk => getD_wf hro.1 k (by omega), small_len (by omega)⟩
    have HVI : Hid (OpIn w2 D q (fun k => v.getD k Sh.zero)) := ⟨HV.out, fun k hk => getD_wf hro.2 k (by omega), small_len (by omega)⟩
    have HEQ : Hid (mkS (Sh.run (lst t1) (ol (fun k => u.getD k Sh.zero) p)) = mkS (Sh.run (lst u1) (ol (fun k => v.getD k Sh.zero) q))) := by
      show _ = _
      rw [eolu, eolv, ht1, hu1, lst_mk, lst_mk, hmeet]
    obtain ⟨f, hf⟩ : ∃ f, f = mkS (Sh.run (lst t1) (ol (fun k => u.getD k Sh.zero) p)) := ⟨_, rfl⟩
    have HF1 := hid hf
    have HF2 : Hid (f = mkS (Sh.run (lst u1) (ol (fun k => v.getD k Sh.zero) q))) := hf.trans HEQ.out
    have RT := hid (row_any (c := c2) s _ (H2.out.keep HB.out) G.out.rb)
    rw [← ht1] at RT
    clear hf HEQ
    have HT1 := hid hu1
    clear hu hv hl eu ev lu lv hro hmeet eolu eolv ht1 hu1 st su HU HV HALL
    go_wp2_with fail
    with_reducible refine RT.out.mono ?_
    rintro e w3 ⟨rfl, hb⟩
    replace HB := hid (bl_then HB.out hb)
    have HU3 := hid (HUI.out.keep hb)
    have HV3 := hid (HVI.out.keep hb)
    have RX := hid (row_any (c := c) t1 _ HU3.out HTX.out)
    rw [← HF1.out] at RX
    clear hb RT HUI HVI
    go_wp2_with fail
    with_reducible refine RX.out.mono ?_
    rintro e w4 ⟨rfl, hb⟩
    replace HB := hid (bl_then HB.out hb)
    have HV4 := hid (HV3.out.keep hb)
    have RU := hid (row_any (c := c1) s _ (H1.out.keep HB.out) G.out.ra)
    rw [← HT1.out] at RU
    clear hb HV3 HU3 RX
    go_wp2_with fail
    with_reducible refine RU.out.mono ?_
    rintro e w5 ⟨rfl, hb⟩
    replace HB := hid (bl_then HB.out hb)
    have HV5 := hid (HV4.out.keep hb)
    have RY := hid (row_any (c := d) u1 _ HV5.out HUY.out)
    rw [← HF2.out] at RY
    clear hb RU HV4
    go_wp2_with fail
    with_reducible refine RY.out.mono ?_
    rintro e w6 ⟨rfl, hb⟩
    replace HB := hid (bl_then HB.out hb)
    have hff : (f.toList == f.toList) = true := by simp
    clear hb RY HV5
    go_wp2
    go_ret
    exact ⟨rfl, HB.out⟩
  · have hxx : (x != 0) = true := bne_iff_ne.2 hx
    obtain ⟨rfl, rfl⟩ := HALL.out.none_ hx
    clear hx hu hv HALL
    go_wp2
    go_ret
    exact ⟨rfl, HB.out⟩
end Go.Proofs.Ytgkagigagcamoaa
