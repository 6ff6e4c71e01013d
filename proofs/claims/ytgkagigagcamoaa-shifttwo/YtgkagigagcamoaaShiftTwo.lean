
/-
quillkeep.ShiftTwo: whatever a text and two ops: it answers true.
-/
import Derived.Test.YtgkagigagcamoaaShifts
import Derived.Test.YtgkagigagcamoaaShBox
import Derived.Test.YtgkagigagcamoaaKeep
namespace Go.Proofs.Ytgkagigagcamoaa
open Go.RowKit

set_option maxHeartbeats 4000000 in
theorem shiftTwo_walk (s0 : ByteArray) (x y : Sh.Op) (w : World) (_ : s0.size ≤ maxLen) (hx : OpWf x) (hy : OpWf y) :
    Calls Try.prog 5 #[.string s0, .agg #[.int .i64 x.k, .int .i64 x.a, .int .u8 (x.b.toNat : Int)], .agg #[.int .i64 y.k, .int .i64 y.a, .int .u8 (y.b.toNat : Int)]] w fun e w' => e = .returned (.bool true) ∧ Below w.heap.size w w' := by
  have HX := hid hx
  have HY := hid hy
  have BX := hid (Bx.two w x y).1
  have BY := hid (Bx.two w x y).2.1
  have HB := hid (Bx.two w x y).2.2
  clear hx hy
  go_enter Try.func5, Try.ntmps5
  go_wp2_with fail
  with_reducible refine (shifts_ok _).mono ?_
  rintro e w1 ⟨rfl, hb⟩
  replace BX := hid (BX.out.keep hb)
  replace BY := hid (BY.out.keep hb)
  replace HB := hid (bl_then HB.out hb)
  clear hb
  go_wp2_with fail
  refine (cut_any s0 198 _ (by decide)).mono ?_
  rintro e w1' ⟨rfl, rfl⟩
  obtain ⟨s, hs⟩ : ∃ s, s = cutS s0 198 := ⟨_, rfl⟩
  have hn : s.size ≤ 198 := by rw [hs]; exact (cutS_size s0 198).1
  rw [← hs]
  clear hs
  have hsm : s.size ≤ maxLen := Nat.le_trans hn (by decide)
  have hN : N64 (s.size : Int) := by unfold N64; omega
  have HN := hid hN
  clear hN
  obtain ⟨-, x0, x1, x2⟩ := BX.out
  go_wp2_with fail
  with_reducible refine (Do_any s x _ hsm HX.out).mono ?_
  rintro e w2 ⟨a, e1, rfl, hd1, hb⟩
  have D1 := hid hd1
  replace BX := hid (BX.out.keep hb)
  replace BY := hid (BY.out.keep hb)
  replace HB := hid (bl_then HB.out hb)
  clear hb hd1 x0 x1 x2
  obtain ⟨-, y0, y1, y2⟩ := BY.out
  go_wp2_with fail
  with_reducible refine (Do_any s y _ hsm HY.out).mono ?_
  rintro e w3 ⟨b, e2, rfl, hd2, hb⟩
  have D2 := hid hd2
  replace BX := hid (BX.out.keep hb)
  replace BY := hid (BY.out.keep hb)
  replace HB := hid (bl_then HB.out hb)
  clear hb hd2 y0 y1 y2
  obtain ⟨-, x0, x1, x2⟩ := BX.out
  obtain ⟨-, y0, y1, y2⟩ := BY.out
  go_wp2_with fail
  with_reducible refine (Past_any (s.size : Int) x y true _ HN.out HX.out HY.out).mono ?_
  rintro e w4 ⟨z, e3, rfl, hp1, hb⟩
  have P1 := hid hp1
  have hb := bl_then hb (bl_new w4 (.cells #[.int .i64 z.k, .int .i64 z.a, .int .u8 (z.b.toNat : Int)] 23))
  have BZ := hid (Bx.new w4 z _ rfl)
  replace BX := hid (BX.out.keep hb)
  replace BY := hid (BY.out.keep hb)
  replace HB := hid (bl_then HB.out hb)
  clear hb hp1 x0 x1 x2 y0 y1 y2
  obtain ⟨-, x0, x1, x2⟩ := BX.out
  obtain ⟨-, y0, y1, y2⟩ := BY.out
  go_wp2_with fail
  with_reducible refine (Past_any (s.size : Int) y x false _ HN.out HY.out HX.out).mono ?_
  rintro e w5 ⟨v, e4, rfl, hp2, hb⟩
  have P2 := hid hp2
  have hb := bl_then hb (bl_new w5 (.cells #[.int .i64 v.k, .int .i64 v.a, .int .u8 (v.b.toNat : Int)] 23))
  have BV := hid (Bx.new w5 v _ rfl)
  replace BZ := hid (BZ.out.keep hb)
  replace HB := hid (bl_then HB.out hb)
  clear hb hp2 x0 x1 x2 y0 y1 y2 BX BY
  by_cases h1 : e1 = 0
  · by_cases h2 : e2 = 0
    · subst h1
      subst h2
      have o1 := D1.out.val rfl
      have o2 := D2.out.val rfl
      obtain ⟨rfl, hz⟩ := P1.out.ok o1.1 o2.1
      obtain ⟨rfl, hv⟩ := P2.out.ok o2.1 o1.1
      have sa : (a.size : Int) = (s.size : Int) + Sh.lon x := by rw [o1.2]; exact do_size o1.1
      have sb : (b.size : Int) = (s.size : Int) + Sh.lon y := by rw [o2.2]; exact do_size o2.1
      have lx := Sh.lon_le x
      have ly := Sh.lon_le y
      have oz : Sh.opErr (b.size : Int) z = 0 := by rw [hz]; exact past_small true o1.1 o2.1 sb (by omega)
      have ov : Sh.opErr (a.size : Int) v = 0 := by rw [hv]; exact past_small false o2.1 o1.1 sa (by omega)
      have hzs := op_small oz
      have hvs := op_small ov
      have HZW := hid (opWf_small (x := z) (by omega))
      have HVW := hid (opWf_small (x := v) (by omega))
      have hbm : b.size ≤ maxLen := Nat.le_trans (show b.size ≤ 1000 by omega) (by decide)
      have ham : a.size ≤ maxLen := Nat.le_trans (show a.size ≤ 1000 by omega) (by decide)
      have HMEET : Hid (mkS (Sh.doL (lst b) z) = mkS (Sh.doL (lst a) v)) := by
        show _ = _
        rw [o1.2, o2.2, lst_mk, lst_mk, hz, hv]
        have k1 := (Sh.err_zero.1 o1.1).1
        have k2 := (Sh.err_zero.1 o2.1).1
        rw [← lst_len] at k1 k2
        rw [Sh.meet k1 k2]
      have OZ := hid oz
      have OV := hid ov
      clear o1 o2 hz hv sa sb lx ly oz ov hzs hvs D1 D2 P1 P2
      obtain ⟨-, z0, z1, z2⟩ := BZ.out
      go_wp2_with fail
      with_reducible refine (Do_any b z _ hbm HZW.out).mono ?_
      rintro e w6 ⟨t, e5, rfl, hd5, hb⟩
      obtain ⟨rfl, ht⟩ := hd5.ok OZ.out
      have HT := hid ht
      replace BV := hid (BV.out.keep hb)
      replace HB := hid (bl_then HB.out hb)
      clear hb hd5 ht z0 z1 z2 BZ
      obtain ⟨-, v0, v1, v2⟩ := BV.out
      go_wp2_with fail
      with_reducible refine (Do_any a v _ ham HVW.out).mono ?_
      rintro e w7 ⟨u, e6, rfl, hd6, hb⟩
      obtain ⟨rfl, hu⟩ := hd6.ok OV.out
      have HTU : Hid (t = u) := by show _ = _; rw [HT.out, hu, HMEET.out]
      replace HB := hid (bl_then HB.out hb)
      clear hb hd6 hu v0 v1 v2 BV HT HMEET
      have hz4 : ∀ k, k < 4 → (w7.alloc (.cells #[.int .i64 0, .int .i64 0, .int .i64 0, .int .i64 0] 24)).cell? ⟨w7.heap.size, k, none⟩ = some (.int .i64 0) := fun k hk => by
        rw [cell_of_row _ _ _ _ _ _ (heap_alloc_new w7 _)]
        match k, hk with
        | 0, _ => rfl
        | 1, _ => rfl
        | 2, _ => rfl
        | 3, _ => rfl
      have HZ4 := hid hz4
      replace HB := hid (bl_then HB.out (bl_new w7 (.cells #[.int .i64 0, .int .i64 0, .int .i64 0, .int .i64 0] 24)))
      clear hz4
      obtain rfl := HTU.out
      have hbt : (t.toList == t.toList) = true := by simp
      go_wp2_with fail
      with_reducible refine (good_ok _ 4 4 _ (by decide) HZ4.out).mono ?_
      rintro e w8 ⟨rfl, rfl⟩
      go_wp2
      go_ret
      exact ⟨rfl, HB.out⟩
    · have h2' : (e2 != 0) = true := bne_iff_ne.2 h2
      subst h1
      have o1 := D1.out.val rfl
      have o2 : Sh.opErr (s.size : Int) y ≠ 0 := by rw [← D2.out.1]; exact h2
      have hg : e3 ≠ 0 := by rw [P1.out.1]; exact fun e => o2 (past_zero.1 e).2
      have hh : e4 ≠ 0 := by rw [P2.out.1]; exact fun e => o2 (past_zero.1 e).1
      have hg1 : (e3 != 0) = true := bne_iff_ne.2 hg
      have hg2 : (e3 == 0) = false := beq_eq_false_iff_ne.2 hg
      have hh2 : (e4 == 0) = false := beq_eq_false_iff_ne.2 hh
      clear o1 o2 hg hh h2
      go_wp2
      go_ret
      exact ⟨rfl, HB.out⟩
  · have h1' : (e1 != 0) = true := bne_iff_ne.2 h1
    have o1 : Sh.opErr (s.size : Int) x ≠ 0 := by rw [← D1.out.1]; exact h1
    have hg : e3 ≠ 0 := by rw [P1.out.1]; exact fun e => o1 (past_zero.1 e).1
    have hh : e4 ≠ 0 := by rw [P2.out.1]; exact fun e => o1 (past_zero.1 e).2
    have hg1 : (e3 != 0) = true := bne_iff_ne.2 hg
    have hg2 : (e3 == 0) = false := beq_eq_false_iff_ne.2 hg
    have hh2 : (e4 == 0) = false := beq_eq_false_iff_ne.2 hh
    clear o1 hg hh h1
    go_wp2
    go_ret
    exact ⟨rfl, HB.out⟩
end Go.Proofs.Ytgkagigagcamoaa
