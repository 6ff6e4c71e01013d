
/-
quillkeep.ShiftStays: whatever a text and two ops: it answers true.
-/
import Derived.Test.YtgkagigagcamoaaShifts
import Derived.Test.YtgkagigagcamoaaShBox
import Derived.Test.YtgkagigagcamoaaShStay
import Derived.Test.YtgkagigagcamoaaKeep
import Derived.RegionTactic
import Derived.BigRegion
namespace Go.Proofs.Ytgkagigagcamoaa
open Go.RowKit

theorem opWf_none : OpWf Sh.none_ := opWf_small (by decide)
theorem opErr_none {n : Int} (h0 : 0 ≤ n) (h : n ≤ 200) : Sh.opErr n Sh.none_ = 0 := Sh.err_zero.2 ⟨⟨h0, .inr (.inr ⟨rfl, rfl, rfl⟩)⟩, h, fun e => absurd e (by decide)⟩
theorem opB_zero : opB 0 0 0 0 0 0 = true := opB_same _ _ _
set_option maxHeartbeats 4000000 in
theorem shiftStays_walk (s0 : ByteArray) (x y : Sh.Op) (f : Bool) (w : World) (_ : s0.size ≤ maxLen) (hx : OpWf x) (hy : OpWf y) :
    Calls Try.prog 7 #[.string s0, .agg #[.int .i64 x.k, .int .i64 x.a, .int .u8 (x.b.toNat : Int)], .agg #[.int .i64 y.k, .int .i64 y.a, .int .u8 (y.b.toNat : Int)], .bool f] w fun e w' => e = .returned (.bool true) ∧ Below w.heap.size w w' := by
  have HX := hid hx
  have HY := hid hy
  have BX := hid (Bx.two w x y).1
  have BY := hid (Bx.two w x y).2.1
  have HB := hid (Bx.two w x y).2.2
  have hq := op_eql
  have hnq := op_neq
  have hgd := op_guard
  have hzz := opB_zero
  clear hx hy
  go_enter Try.func7, Try.ntmps7
  go_wp2_with fail
  with_reducible refine (shifts_ok _).mono ?_
  rintro e w1 ⟨rfl, hb⟩
  replace BX := hid (BX.out.keep hb)
  replace BY := hid (BY.out.keep hb)
  replace HB := hid (bl_then HB.out hb)
  clear hb
  go_wp2_with fail
  refine (cut_any s0 198 _ (by decide)).mono ?_
  rintro e w1' ⟨rfl, rfl⟩
  obtain ⟨s, hs⟩ : ∃ s, s = cutS s0 198 := ⟨_, rfl⟩
  have hn : s.size ≤ 198 := by rw [hs]; exact (cutS_size s0 198).1
  rw [← hs]
  clear hs
  have hsm : s.size ≤ maxLen := Nat.le_trans hn (by decide)
  have hN : N64 (s.size : Int) := by unfold N64; omega
  have HN := hid hN
  clear hN
  obtain ⟨-, x0, x1, x2⟩ := BX.out
  obtain ⟨-, y0, y1, y2⟩ := BY.out
  go_wp2_with fail
  with_reducible refine (Past_any (s.size : Int) x y f _ HN.out HX.out HY.out).mono ?_
  rintro e w4 ⟨z, e3, rfl, hp1, hb⟩
  have P1 := hid hp1
  have hb := bl_then hb (bl_new w4 (.cells #[.int .i64 z.k, .int .i64 z.a, .int .u8 (z.b.toNat : Int)] 23))
  have BZ := hid (Bx.new w4 z _ rfl)
  replace BX := hid (BX.out.keep hb)
  replace BY := hid (BY.out.keep hb)
  replace HB := hid (bl_then HB.out hb)
  clear hb hp1 x0 x1 x2 y0 y1 y2
  obtain ⟨-, x0, x1, x2⟩ := BX.out
  have hpn : Hid (∀ W, Calls Try.prog 12 #[.int .i64 (s.size : Int), .agg #[.int .i64 x.k, .int .i64 x.a, .int .u8 (x.b.toNat : Int)], .agg #[.int .i64 3, .int .i64 0, .int .u8 0], .bool f] W fun e w' =>
      ∃ (z : Sh.Op) (e0 : Int), e = .returned (.tuple #[.agg #[.int .i64 z.k, .int .i64 z.a, .int .u8 (z.b.toNat : Int)], .int .i64 e0]) ∧ PastIs (s.size : Int) x Sh.none_ f z e0 ∧ Below W.heap.size W w') := fun W => Past_any (s.size : Int) x Sh.none_ f W HN.out HX.out opWf_none
  go_wp2_with fail
  with_reducible refine (hpn.out _).mono ?_
  rintro e w5 ⟨v, e4, rfl, hp2, hb⟩
  have P2 := hid hp2
  have hb := bl_then hb (bl_new w5 (.cells #[.int .i64 v.k, .int .i64 v.a, .int .u8 (v.b.toNat : Int)] 23))
  have BV := hid (Bx.new w5 v _ rfl)
  replace BZ := hid (BZ.out.keep hb)
  replace BX := hid (BX.out.keep hb)
  replace BY := hid (BY.out.keep hb)
  replace HB := hid (bl_then HB.out hb)
  clear hb hp2 x0 x1 x2 hpn
  obtain ⟨-, x0, x1, x2⟩ := BX.out
  obtain ⟨-, z0, z1, z2⟩ := BZ.out
  by_cases h3 : e3 = 0
  · subst h3
    obtain ⟨ox, oy⟩ := past_zero.1 P1.out.1.symm
    obtain ⟨-, hz⟩ := P1.out.ok ox oy
    obtain ⟨rfl, hv⟩ := P2.out.ok ox (opErr_none (by omega) (by omega))
    rw [Sh.past_none] at hv
    subst hv
    obtain ⟨-, v0, v1, v2⟩ := BV.out
    have hb1 := opB_same v.k v.a (v.b.toNat : Int)
    have hxs := op_small ox
    have w1 : IntKind.i64.wrap (v.a - 1) = v.a - 1 := IntWalk.i64_in _ (by omega)
    have w2 : IntKind.i64.wrap (v.a + 1) = v.a + 1 := IntWalk.i64_in _ (by omega)
    have kx := (Sh.err_zero.1 ox).1
    have ky := (Sh.err_zero.1 oy).1
    have OY := hid oy
    by_cases k1 : v.k = 1
    · obtain ⟨a1, a2, a3, a4⟩ := Sh.past_put y f k1
      rw [← hz] at a1 a2 a3 a4
      have c1 : (v.k == 1) = true := beq_iff_eq.2 k1
      have c2 : (z.k == 1) = true := beq_iff_eq.2 a1
      have c3 : ((z.b.toNat : Int) == (v.b.toNat : Int)) = true := by rw [a2]; simp
      have c4 : decide (v.a - 1 ≤ z.a) = true := decide_eq_true a3
      have c5 : decide (z.a ≤ v.a + 1) = true := decide_eq_true a4
      clear P1 P2 kx ky ox oy hz a1 a2 hxs k1
      go_wp2
      go_ret
      exact ⟨rfl, HB.out⟩
    · have c1 : (v.k == 1) = false := beq_eq_false_iff_ne.2 k1
      by_cases k2 : v.k = 2
      · have c2 : (v.k == 2) = true := beq_iff_eq.2 k2
        rw [← lst_len] at kx ky
        have ht := Sh.past_take f k2 kx ky
        rw [← hz] at ht
        rw [lst_len] at kx ky
        have HT := hid ht
        have K2 := hid k2
        have KX := hid kx
        obtain ⟨-, y0, y1, y2⟩ := BY.out
        clear ht k2 kx
        go_wp2_with fail
        with_reducible refine (Do_any s y _ hsm HY.out).mono ?_
        rintro e w6 ⟨t, e5, rfl, hd, hb⟩
        obtain ⟨rfl, ht⟩ := hd.ok OY.out
        replace BX := hid (BX.out.keep hb)
        replace BY := hid (BY.out.keep hb)
        replace BZ := hid (BZ.out.keep hb)
        replace HB := hid (bl_then HB.out hb)
        have htl : lst t = Sh.doL (lst s) y := by rw [ht, lst_mk]
        have HT := HT.out
        rw [← htl, lst_len] at HT
        clear hb hd x0 x1 x2 y0 y1 y2 z0 z1 z2 v0 v1 v2 ht htl
        obtain ⟨-, x0, x1, x2⟩ := BX.out
        obtain ⟨-, y0, y1, y2⟩ := BY.out
        obtain ⟨-, z0, z1, z2⟩ := BZ.out
        rcases HT with ⟨a1, a2, a3⟩ | ⟨a1, a2, a3, a4⟩
        · have c3 : (z.k == 3) = true := beq_iff_eq.2 a1
          have c4 : (y.k == 2) = true := beq_iff_eq.2 a2
          have c5 : (y.a == v.a) = true := beq_iff_eq.2 a3
          clear P1 P2 ky ox oy hz a1 a2 a3 hxs k1 BV
          go_wp2
          go_ret
          exact ⟨rfl, HB.out⟩
        · have c3 : (z.k == 3) = false := beq_eq_false_iff_ne.2 (by omega)
          have c4 : (z.k == 2) = true := beq_iff_eq.2 a1
          obtain ⟨i, hi⟩ := Int.eq_ofNat_of_zero_le (show 0 ≤ v.a from hxs.2.2.1)
          obtain ⟨j, hj⟩ := Int.eq_ofNat_of_zero_le a2
          have his : i < s.size := by have := K2.out; obtain ⟨_, kx⟩ := KX.out; omega
          have hjt : j < t.size := by omega
          have i1 : (i : Int) < (s.size : Int) := by omega
          have j1 : (j : Int) < (t.size : Int) := by omega
          have i0 : (0 : Int) ≤ (i : Int) := by omega
          have j0 : (0 : Int) ≤ (j : Int) := by omega
          rw [hi, hj, Int.toNat_natCast, Int.toNat_natCast] at a4
          have heq : ((t[j].toNat : Int) == (s[i].toNat : Int)) = true := by
            rw [← byt_eq hjt, ← byt_eq his]
            have : byt t j = byt s i := by
              show (lst t).getD j 0 = (lst s).getD i 0
              rw [List.getD_eq_getElem?_getD, List.getD_eq_getElem?_getD, a4]
            rw [this]
            simp
          rw [hi] at x1
          rw [hj] at z1
          clear P1 P2 ky ox oy hz a1 a2 a3 a4 hxs k1 BV hi hj w1 w2
          go_wp2
          go_quiet (fail)
          go_wp2
          go_ret
          exact ⟨rfl, bl_drewN HB.out _⟩
      · have c2 : (v.k == 2) = false := beq_eq_false_iff_ne.2 k2
        have k3 : v.k = 3 := by obtain ⟨_, kx⟩ := kx; omega
        rw [Sh.past_not y f k3] at hz
        subst hz
        clear P1 P2 kx ky ox oy hxs k1 k2 k3
        go_wp2
        go_ret
        exact ⟨rfl, HB.out⟩
  · have h3' : (e3 != 0) = true := bne_iff_ne.2 h3
    have hz := P1.out.none_ h3
    subst hz
    have z0' : (Sh.zero).k = 0 := rfl
    have z1' : (Sh.zero).a = 0 := rfl
    have z2' : ((Sh.zero).b.toNat : Int) = 0 := rfl
    rw [z0'] at z0
    rw [z1'] at z1
    rw [z2'] at z2
    clear h3 P1 P2 z0' z1' z2'
    go_wp2
    go_ret
    exact ⟨rfl, HB.out⟩
end Go.Proofs.Ytgkagigagcamoaa
