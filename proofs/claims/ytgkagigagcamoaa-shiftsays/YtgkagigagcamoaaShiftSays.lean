
/-
quilllaw.ShiftSays: whatever a text, a number, two ops and a bool: it answers true.
-/
import Derived.Test.YtgkagigagcamoaaShBox
import Derived.Test.YtgkagigagcamoaaRefOp
import Derived.Test.YtgkagigagcamoaaOpEqual
import Derived.Deep.RegionHeld3
namespace Go.Proofs.Ytgkagigagcamoaa
open Go.RowKit

/-- The cells of a struct variable that holds an op. -/
def BxC (W : World) (N : Nat) (x : Sh.Op) : Prop := W.cell? ⟨N, 0, none⟩ = some (.int .i64 x.k) ∧ W.cell? ⟨N, 1, none⟩ = some (.int .i64 x.a) ∧ W.cell? ⟨N, 2, none⟩ = some (.int .u8 (x.b.toNat : Int))
set_option maxHeartbeats 8000000 in
set_option maxRecDepth 100000 in
theorem shiftSays_walk (s : ByteArray) (N : Int) (x y : Sh.Op) (f : Bool) (w : World) (hs : s.size ≤ maxLen) (hx : OpWf x) (hy : OpWf y) (hN : -9223372036854775808 ≤ N ∧ N ≤ 9223372036854775807) :
    Calls Try.prog 3 #[.string s, .int .i64 N, .agg #[.int .i64 x.k, .int .i64 x.a, .int .u8 (x.b.toNat : Int)], .agg #[.int .i64 y.k, .int .i64 y.a, .int .u8 (y.b.toNat : Int)], .bool f] w fun e w' => e = .returned (.bool true) ∧ Below w.heap.size w w' := by
  have HX := hid hx
  have HY := hid hy
  have HN : Hid (N64 N) := hN
  have HS : Hid (s.size ≤ maxLen) := hs
  have HS64 : Hid (N64 (s.size : Int)) := by show N64 _; unfold N64; unfold maxLen at hs; omega
  have BX := hid (Bx.two w x y).1
  have BY := hid (Bx.two w x y).2.1
  have HB := hid (Bx.two w x y).2.2
  have hq := op_eql
  have hgd := op_guard
  clear hx hy hN hs
  go_enter Try.func3, Try.ntmps3
  obtain ⟨-, x0, x1, x2⟩ := BX.out
  obtain ⟨-, y0, y1, y2⟩ := BY.out
  go_wp2_with fail
  with_reducible refine (Do_any s x _ HS.out HX.out).mono ?_
  rintro e w1 ⟨t, e1, rfl, hd, hb⟩
  have HD := hid hd
  replace BX := hid (BX.out.keep hb)
  replace BY := hid (BY.out.keep hb)
  replace HB := hid (bl_then HB.out hb)
  clear hb hd x0 x1 x2 y0 y1 y2
  obtain ⟨-, x0, x1, x2⟩ := BX.out
  obtain ⟨-, y0, y1, y2⟩ := BY.out
  go_wp2_with fail
  with_reducible refine (Past_any N x y f _ HN.out HX.out HY.out).mono ?_
  rintro e w4 ⟨z, e2, rfl, hp, hb⟩
  have HP := hid hp
  clear hp x0 x1 x2 y0 y1 y2
  have hb := bl_then hb (bl_new w4 (.cells #[.int .i64 z.k, .int .i64 z.a, .int .u8 (z.b.toNat : Int)] 23))
  have BZ := hid (Bx.new w4 z _ rfl)
  replace BX := hid (BX.out.keep hb)
  replace BY := hid (BY.out.keep hb)
  replace HB := hid (bl_then HB.out hb)
  obtain ⟨w5, hw5⟩ : ∃ w5, w5 = w4.alloc (.cells #[.int .i64 z.k, .int .i64 z.a, .int .u8 (z.b.toNat : Int)] 23) := ⟨_, rfl⟩
  have HW5 := hid hw5
  clear hb hw5
  go_wp2
  rw [← HW5.out] at BX BY BZ HB ⊢
  clear HW5
  obtain ⟨-, x0, x1, x2⟩ := BX.out
  have HXC : Hid (∀ W, Below w5.heap.size w5 W → (W.cell? ⟨w.heap.size, 0, none⟩ = some (.int .i64 x.k) ∧ W.cell? ⟨w.heap.size, 1, none⟩ = some (.int .i64 x.a) ∧ W.cell? ⟨w.heap.size, 2, none⟩ = some (.int .u8 (x.b.toNat : Int)))) := fun W hW => (BX.out.keep hW).2
  have hDr : Below w5.heap.size w5 w5.drew := bl_drewN (Below.refl _ _) 1
  go_region_held3 (fun W => (W.cell? ⟨w.heap.size, 0, none⟩ = some (.int .i64 x.k) ∧ W.cell? ⟨w.heap.size, 1, none⟩ = some (.int .i64 x.a) ∧ W.cell? ⟨w.heap.size, 2, none⟩ = some (.int .u8 (x.b.toNat : Int)))) (first | exact HXC.out _ hDr | exact hS9 | exact hS8) (first | (go_at_call 13; (with_reducible refine (SCheck_any N x _ HN.out HX.out).mono ?_); rintro e w8 ⟨rfl, hb8⟩; have hS8 := HXC.out _ (bl_then hDr hb8)) | (go_at_call 14; (with_reducible refine (OpErr_any N x _ HN.out HX.out).mono ?_); rintro e w9 ⟨rfl, hb9⟩; have hb10 := bl_then (bl_then hDr hb8) hb9; have hS9 := HXC.out _ hb10))
  rename_i hHeld
  replace BX := hid (BX.out.keep hb10)
  replace BY := hid (BY.out.keep hb10)
  replace BZ := hid (BZ.out.keep hb10)
  replace HB := hid (bl_then HB.out hb10)
  clear hDr hb8 hb9 hb10 hS8 hS9 HXC x0 x1 x2 hHeld
  obtain ⟨-, x0, x1, x2⟩ := BX.out
  go_wp2_with fail
  with_reducible refine (OpErr_any (s.size : Int) x _ HS64.out HX.out).mono ?_
  rintro e w10 ⟨rfl, hb⟩
  replace BX := hid (BX.out.keep hb)
  replace BY := hid (BY.out.keep hb)
  replace BZ := hid (BZ.out.keep hb)
  replace HB := hid (bl_then HB.out hb)
  clear hb x0 x1 x2
  by_cases hE : Sh.opErr (s.size : Int) x = 0
  · obtain ⟨rfl, ht⟩ := HD.out
    rw [if_pos hE] at ht
    clear HD
    rw [hE]
    obtain ⟨-, x0, x1, x2⟩ := BX.out
    obtain ⟨⟨_, hok⟩, h200, _⟩ := Sh.err_zero.1 hE
    clear hE
    by_cases k1 : x.k = 1
    · obtain ⟨a, ha⟩ : ∃ a : Nat, x.a = (a : Int) := ⟨x.a.toNat, by omega⟩
      have hle : a ≤ s.size := by omega
      have hleI : (a : Int) ≤ (s.size : Int) := by omega
      have ha0 : (0 : Int) ≤ (a : Int) := by omega
      have hs200 : s.size ≤ 200 := by omega
      rw [k1] at x0
      rw [ha] at x1
      obtain ⟨one, hone⟩ : ∃ one, one = mkS [x.b] := ⟨_, rfl⟩
      have HT : Hid (t = s.extract 0 a ++ one ++ s.extract a s.size) := by
        show _ = _
        rw [ht, Sh.do_put k1, ha, hone, do_put]
        rfl
      have hcv : (convert 30 9 (.slice (some ⟨w10.heap.size, 0, none⟩) 1 1)).run Try.prog (w10.alloc (.cells #[.int .u8 (x.b.toNat : Int)] 5)).drew = .ok (.string one) (w10.alloc (.cells #[.int .u8 (x.b.toNat : Int)] 5)).drew := by
        rw [hone]
        exact conv_1 x.b ((cell_of_row _ _ _ _ _ _ (heap_alloc_new w10 _)).trans rfl)
      have e1 : (w10.alloc (.cells #[.int .u8 (x.b.toNat : Int)] 5)).cell? ⟨w.heap.size, 1, none⟩ = some (.int .i64 (a : Int)) := ((bl_new w10 _).cell (p := ⟨w.heap.size, 1, none⟩) BX.out.1).trans x1
      have e2 : (w10.alloc (.cells #[.int .u8 (x.b.toNat : Int)] 5)).cell? ⟨w.heap.size, 2, none⟩ = some (.int .u8 (x.b.toNat : Int)) := ((bl_new w10 _).cell (p := ⟨w.heap.size, 2, none⟩) BX.out.1).trans x2
      have hz1 : one.size = 1 := by rw [hone, mk_size]; rfl
      have hz2 : (s.extract 0 a).size = a := by simp; omega
      have hz3 : (s.extract a s.size).size = s.size - a := by simp
      have hz4 : (s.extract 0 a ++ one).size = a + 1 := by rw [size_app, hz1, hz2]
      have hb1 : ¬ 9223372036854775807 < a + 1 := by omega
      have hb2 : ¬ 9223372036854775807 < a + 1 + (s.size - a) := by omega
      obtain ⟨w11, hw11⟩ : ∃ w11, w11 = (w10.alloc (.cells #[.int .u8 (x.b.toNat : Int)] 5)).drew := ⟨_, rfl⟩
      have HW11 := hid hw11
      have hb : Below w10.heap.size w10 w11 := by rw [hw11]; exact (bl_new w10 _).drew
      replace BX := hid (BX.out.keep hb)
      replace BY := hid (BY.out.keep hb)
      replace BZ := hid (BZ.out.keep hb)
      replace HB := hid (bl_then HB.out hb)
      clear hok h200 hone ht ha k1 hb hw11
      go_wp2
      go_region
      rw [← HW11.out]
      clear HW11 x0 x1 x2 e1 e2 hcv
      have hT := HT.out
      subst hT
      obtain ⟨-, x0, x1, x2⟩ := BX.out
      go_wp2_with fail
      with_reducible refine (OpErr_any N x _ HN.out HX.out).mono ?_
      rintro e w12 ⟨rfl, hb⟩
      replace BX := hid (BX.out.keep hb)
      replace BY := hid (BY.out.keep hb)
      replace BZ := hid (BZ.out.keep hb)
      replace HB := hid (bl_then HB.out hb)
      clear hb x0 x1 x2
      obtain ⟨he, hz⟩ := HP.out
      clear HP
      by_cases hE1 : Sh.opErr N x = 0
      · rw [hE1]
        obtain ⟨-, y0, y1, y2⟩ := BY.out
        have HE1 := hid hE1
        have HE := hid he
        have HZ := hid hz
        clear he hz hE1
        go_wp2_with fail
        with_reducible refine (OpErr_any N y _ HN.out HY.out).mono ?_
        rintro e w13 ⟨rfl, hb⟩
        replace BX := hid (BX.out.keep hb)
        replace BY := hid (BY.out.keep hb)
        replace BZ := hid (BZ.out.keep hb)
        replace HB := hid (bl_then HB.out hb)
        clear hb y0 y1 y2
        by_cases hE2 : Sh.opErr N y = 0
        · rw [hE2]
          have hp0 : pastErr N x y = 0 := past_zero.2 ⟨HE1.out, hE2⟩
          have he := HE.out
          have hz := HZ.out
          rw [hp0] at he
          subst he
          rw [if_pos rfl] at hz
          have HPO : Hid (∀ W, Calls Try.prog 15 #[.agg #[.int .i64 x.k, .int .i64 x.a, .int .u8 (x.b.toNat : Int)], .agg #[.int .i64 y.k, .int .i64 y.a, .int .u8 (y.b.toNat : Int)], .bool f] W fun e w' => e = .returned (.agg #[.int .i64 z.k, .int .i64 z.a, .int .u8 (z.b.toNat : Int)]) ∧ Below W.heap.size W w') := fun W => by
            rw [hz]
            exact PastOf_any x y f W (op_bound HE1.out)
          have hsame := opB_same z.k z.a (z.b.toNat : Int)
          have HXC : Hid (∀ W, Below w13.heap.size w13 W → (W.cell? ⟨w4.heap.size, 0, none⟩ = some (.int .i64 z.k) ∧ W.cell? ⟨w4.heap.size, 1, none⟩ = some (.int .i64 z.a) ∧ W.cell? ⟨w4.heap.size, 2, none⟩ = some (.int .u8 (z.b.toNat : Int))) ∧ (W.cell? ⟨w.heap.size, 0, none⟩ = some (.int .i64 x.k) ∧ W.cell? ⟨w.heap.size, 1, none⟩ = some (.int .i64 x.a) ∧ W.cell? ⟨w.heap.size, 2, none⟩ = some (.int .u8 (x.b.toNat : Int))) ∧ (W.cell? ⟨w.heap.size + 1, 0, none⟩ = some (.int .i64 y.k) ∧ W.cell? ⟨w.heap.size + 1, 1, none⟩ = some (.int .i64 y.a) ∧ W.cell? ⟨w.heap.size + 1, 2, none⟩ = some (.int .u8 (y.b.toNat : Int)))) := fun W hW => ⟨(BZ.out.keep hW).2, (BX.out.keep hW).2, (BY.out.keep hW).2⟩
          have hDr : Below w13.heap.size w13 w13.drew := bl_drewN (Below.refl _ _) 1
          clear hp0 hz HE HZ hE2 HE1
          go_wp2
          go_region_held3 (fun W => (W.cell? ⟨w4.heap.size, 0, none⟩ = some (.int .i64 z.k) ∧ W.cell? ⟨w4.heap.size, 1, none⟩ = some (.int .i64 z.a) ∧ W.cell? ⟨w4.heap.size, 2, none⟩ = some (.int .u8 (z.b.toNat : Int))) ∧ (W.cell? ⟨w.heap.size, 0, none⟩ = some (.int .i64 x.k) ∧ W.cell? ⟨w.heap.size, 1, none⟩ = some (.int .i64 x.a) ∧ W.cell? ⟨w.heap.size, 2, none⟩ = some (.int .u8 (x.b.toNat : Int))) ∧ (W.cell? ⟨w.heap.size + 1, 0, none⟩ = some (.int .i64 y.k) ∧ W.cell? ⟨w.heap.size + 1, 1, none⟩ = some (.int .i64 y.a) ∧ W.cell? ⟨w.heap.size + 1, 2, none⟩ = some (.int .u8 (y.b.toNat : Int)))) (first | exact HXC.out _ hDr | exact hS14) (first | (go_at_call 15; (with_reducible refine (HPO.out _).mono ?_); rintro e w14 ⟨rfl, hb14⟩; have hb15 := bl_then hDr hb14; have hS14 := HXC.out _ hb15))
          go_wp2
          go_ret
          exact ⟨rfl, bl_then HB.out hb15⟩
        · have hE2' : (Sh.opErr N y != 0) = true := bne_iff_ne.2 hE2
          have hE2'' : (Sh.opErr N y == 0) = false := beq_eq_false_iff_ne.2 hE2
          have he := HE.out
          have hz := HZ.out
          have hpe : pastErr N x y = Sh.opErr N y := by unfold pastErr; rw [if_pos HE1.out]
          rw [hpe] at he
          subst he
          rw [if_neg hE2] at hz
          have z0 : w13.cell? ⟨w4.heap.size, 0, none⟩ = some (.int .i64 0) := by have := BZ.out.2.1; rw [hz] at this; exact this
          have z1 : w13.cell? ⟨w4.heap.size, 1, none⟩ = some (.int .i64 0) := by have := BZ.out.2.2.1; rw [hz] at this; exact this
          have z2 : w13.cell? ⟨w4.heap.size, 2, none⟩ = some (.int .u8 0) := by have := BZ.out.2.2.2; rw [hz] at this; exact this
          have hsame := opB_same 0 0 0
          clear hpe hz HE HZ hE2 HE1
          go_wp2
          go_ret
          exact ⟨rfl, HB.out⟩
      · have hE1' : (Sh.opErr N x != 0) = true := bne_iff_ne.2 hE1
        have hE1'' : (Sh.opErr N x == 0) = false := beq_eq_false_iff_ne.2 hE1
        have hpe : pastErr N x y = Sh.opErr N x := by unfold pastErr; rw [if_neg hE1]
        rw [hpe] at he
        subst he
        rw [if_neg hE1] at hz
        have z0 : w12.cell? ⟨w4.heap.size, 0, none⟩ = some (.int .i64 0) := by have := BZ.out.2.1; rw [hz] at this; exact this
        have z1 : w12.cell? ⟨w4.heap.size, 1, none⟩ = some (.int .i64 0) := by have := BZ.out.2.2.1; rw [hz] at this; exact this
        have z2 : w12.cell? ⟨w4.heap.size, 2, none⟩ = some (.int .u8 0) := by have := BZ.out.2.2.2; rw [hz] at this; exact this
        have hsame := opB_same 0 0 0
        clear hpe hz hE1
        go_wp2
        go_ret
        exact ⟨rfl, HB.out⟩
    · by_cases k2 : x.k = 2
      · obtain ⟨a, ha⟩ : ∃ a : Nat, x.a = (a : Int) := ⟨x.a.toNat, by omega⟩
        have hle : a ≤ s.size := by omega
        have hleI : (a : Int) ≤ (s.size : Int) := by omega
        have hle1 : a + 1 ≤ s.size := by omega
        have hleI1 : (a : Int) + 1 ≤ (s.size : Int) := by omega
        have ha0 : (0 : Int) ≤ (a : Int) := by omega
        have ha1 : (0 : Int) ≤ (a : Int) + 1 := by omega
        have hw : IntKind.i64.wrap ((a : Int) + 1) = (a : Int) + 1 := IntWalk.i64_in _ (by omega)
        rw [k2] at x0
        rw [ha] at x1
        obtain ⟨d, hd⟩ : ∃ d : Nat, d = a + 1 := ⟨_, rfl⟩
        have HT : Hid (t = s.extract 0 a ++ s.extract d s.size) := by
          show _ = _
          rw [ht, Sh.do_tak k2, ha, hd, do_tak]
          rfl
        have hdI : (a : Int) + 1 = (d : Int) := by omega
        rw [hdI] at hw hleI1 ha1
        rw [← hd] at hle1
        have hz2 : (s.extract 0 a).size = a := by simp; omega
        have hz3 : (s.extract d s.size).size = s.size - d := by simp
        have hb2 : ¬ 9223372036854775807 < a + (s.size - d) := by omega
        obtain ⟨w11, hw11⟩ : ∃ w11, w11 = w10.drew := ⟨_, rfl⟩
        have HW11 := hid hw11
        have hb : Below w10.heap.size w10 w11 := by rw [hw11]; exact bl_drewN (Below.refl _ _) 1
        replace BX := hid (BX.out.keep hb)
        replace BY := hid (BY.out.keep hb)
        replace BZ := hid (BZ.out.keep hb)
        replace HB := hid (bl_then HB.out hb)
        clear hok h200 ht ha k1 k2 hd hb hw11
        go_wp2
        go_region
        rw [← HW11.out]
        clear HW11 x0 x1 x2
        have hT := HT.out
        subst hT
        obtain ⟨-, x0, x1, x2⟩ := BX.out
        go_wp2_with fail
        with_reducible refine (OpErr_any N x _ HN.out HX.out).mono ?_
        rintro e w12 ⟨rfl, hb⟩
        replace BX := hid (BX.out.keep hb)
        replace BY := hid (BY.out.keep hb)
        replace BZ := hid (BZ.out.keep hb)
        replace HB := hid (bl_then HB.out hb)
        clear hb x0 x1 x2
        obtain ⟨he, hz⟩ := HP.out
        clear HP
        by_cases hE1 : Sh.opErr N x = 0
        · rw [hE1]
          obtain ⟨-, y0, y1, y2⟩ := BY.out
          have HE1 := hid hE1
          have HE := hid he
          have HZ := hid hz
          clear he hz hE1
          go_wp2_with fail
          with_reducible refine (OpErr_any N y _ HN.out HY.out).mono ?_
          rintro e w13 ⟨rfl, hb⟩
          replace BX := hid (BX.out.keep hb)
          replace BY := hid (BY.out.keep hb)
          replace BZ := hid (BZ.out.keep hb)
          replace HB := hid (bl_then HB.out hb)
          clear hb y0 y1 y2
          by_cases hE2 : Sh.opErr N y = 0
          · rw [hE2]
            have hp0 : pastErr N x y = 0 := past_zero.2 ⟨HE1.out, hE2⟩
            have he := HE.out
            have hz := HZ.out
            rw [hp0] at he
            subst he
            rw [if_pos rfl] at hz
            have HPO : Hid (∀ W, Calls Try.prog 15 #[.agg #[.int .i64 x.k, .int .i64 x.a, .int .u8 (x.b.toNat : Int)], .agg #[.int .i64 y.k, .int .i64 y.a, .int .u8 (y.b.toNat : Int)], .bool f] W fun e w' => e = .returned (.agg #[.int .i64 z.k, .int .i64 z.a, .int .u8 (z.b.toNat : Int)]) ∧ Below W.heap.size W w') := fun W => by
              rw [hz]
              exact PastOf_any x y f W (op_bound HE1.out)
            have hsame := opB_same z.k z.a (z.b.toNat : Int)
            have HXC : Hid (∀ W, Below w13.heap.size w13 W → (W.cell? ⟨w4.heap.size, 0, none⟩ = some (.int .i64 z.k) ∧ W.cell? ⟨w4.heap.size, 1, none⟩ = some (.int .i64 z.a) ∧ W.cell? ⟨w4.heap.size, 2, none⟩ = some (.int .u8 (z.b.toNat : Int))) ∧ (W.cell? ⟨w.heap.size, 0, none⟩ = some (.int .i64 x.k) ∧ W.cell? ⟨w.heap.size, 1, none⟩ = some (.int .i64 x.a) ∧ W.cell? ⟨w.heap.size, 2, none⟩ = some (.int .u8 (x.b.toNat : Int))) ∧ (W.cell? ⟨w.heap.size + 1, 0, none⟩ = some (.int .i64 y.k) ∧ W.cell? ⟨w.heap.size + 1, 1, none⟩ = some (.int .i64 y.a) ∧ W.cell? ⟨w.heap.size + 1, 2, none⟩ = some (.int .u8 (y.b.toNat : Int)))) := fun W hW => ⟨(BZ.out.keep hW).2, (BX.out.keep hW).2, (BY.out.keep hW).2⟩
            have hDr : Below w13.heap.size w13 w13.drew := bl_drewN (Below.refl _ _) 1
            clear hp0 hz HE HZ hE2 HE1
            go_wp2
            go_region_held3 (fun W => (W.cell? ⟨w4.heap.size, 0, none⟩ = some (.int .i64 z.k) ∧ W.cell? ⟨w4.heap.size, 1, none⟩ = some (.int .i64 z.a) ∧ W.cell? ⟨w4.heap.size, 2, none⟩ = some (.int .u8 (z.b.toNat : Int))) ∧ (W.cell? ⟨w.heap.size, 0, none⟩ = some (.int .i64 x.k) ∧ W.cell? ⟨w.heap.size, 1, none⟩ = some (.int .i64 x.a) ∧ W.cell? ⟨w.heap.size, 2, none⟩ = some (.int .u8 (x.b.toNat : Int))) ∧ (W.cell? ⟨w.heap.size + 1, 0, none⟩ = some (.int .i64 y.k) ∧ W.cell? ⟨w.heap.size + 1, 1, none⟩ = some (.int .i64 y.a) ∧ W.cell? ⟨w.heap.size + 1, 2, none⟩ = some (.int .u8 (y.b.toNat : Int)))) (first | exact HXC.out _ hDr | exact hS14) (first | (go_at_call 15; (with_reducible refine (HPO.out _).mono ?_); rintro e w14 ⟨rfl, hb14⟩; have hb15 := bl_then hDr hb14; have hS14 := HXC.out _ hb15))
            go_wp2
            go_ret
            exact ⟨rfl, bl_then HB.out hb15⟩
          · have hE2' : (Sh.opErr N y != 0) = true := bne_iff_ne.2 hE2
            have hE2'' : (Sh.opErr N y == 0) = false := beq_eq_false_iff_ne.2 hE2
            have he := HE.out
            have hz := HZ.out
            have hpe : pastErr N x y = Sh.opErr N y := by unfold pastErr; rw [if_pos HE1.out]
            rw [hpe] at he
            subst he
            rw [if_neg hE2] at hz
            have z0 : w13.cell? ⟨w4.heap.size, 0, none⟩ = some (.int .i64 0) := by have := BZ.out.2.1; rw [hz] at this; exact this
            have z1 : w13.cell? ⟨w4.heap.size, 1, none⟩ = some (.int .i64 0) := by have := BZ.out.2.2.1; rw [hz] at this; exact this
            have z2 : w13.cell? ⟨w4.heap.size, 2, none⟩ = some (.int .u8 0) := by have := BZ.out.2.2.2; rw [hz] at this; exact this
            have hsame := opB_same 0 0 0
            clear hpe hz HE HZ hE2 HE1
            go_wp2
            go_ret
            exact ⟨rfl, HB.out⟩
        · have hE1' : (Sh.opErr N x != 0) = true := bne_iff_ne.2 hE1
          have hE1'' : (Sh.opErr N x == 0) = false := beq_eq_false_iff_ne.2 hE1
          have hpe : pastErr N x y = Sh.opErr N x := by unfold pastErr; rw [if_neg hE1]
          rw [hpe] at he
          subst he
          rw [if_neg hE1] at hz
          have z0 : w12.cell? ⟨w4.heap.size, 0, none⟩ = some (.int .i64 0) := by have := BZ.out.2.1; rw [hz] at this; exact this
          have z1 : w12.cell? ⟨w4.heap.size, 1, none⟩ = some (.int .i64 0) := by have := BZ.out.2.2.1; rw [hz] at this; exact this
          have z2 : w12.cell? ⟨w4.heap.size, 2, none⟩ = some (.int .u8 0) := by have := BZ.out.2.2.2; rw [hz] at this; exact this
          have hsame := opB_same 0 0 0
          clear hpe hz hE1
          go_wp2
          go_ret
          exact ⟨rfl, HB.out⟩
      · have hT : t = s := by
          rw [ht]
          unfold Sh.doL
          rw [if_neg k1, if_neg k2, mk_lst]
        have k1' := beq_eq_false_iff_ne.2 k1
        have k2' := beq_eq_false_iff_ne.2 k2
        subst hT
        clear hok h200 ht k1 k2 x1 x2
        obtain ⟨-, x0, x1, x2⟩ := BX.out
        go_wp2_with fail
        with_reducible refine (OpErr_any N x _ HN.out HX.out).mono ?_
        rintro e w12 ⟨rfl, hb⟩
        replace BX := hid (BX.out.keep hb)
        replace BY := hid (BY.out.keep hb)
        replace BZ := hid (BZ.out.keep hb)
        replace HB := hid (bl_then HB.out hb)
        clear hb x0 x1 x2
        obtain ⟨he, hz⟩ := HP.out
        clear HP
        by_cases hE1 : Sh.opErr N x = 0
        · rw [hE1]
          obtain ⟨-, y0, y1, y2⟩ := BY.out
          have HE1 := hid hE1
          have HE := hid he
          have HZ := hid hz
          clear he hz hE1
          go_wp2_with fail
          with_reducible refine (OpErr_any N y _ HN.out HY.out).mono ?_
          rintro e w13 ⟨rfl, hb⟩
          replace BX := hid (BX.out.keep hb)
          replace BY := hid (BY.out.keep hb)
          replace BZ := hid (BZ.out.keep hb)
          replace HB := hid (bl_then HB.out hb)
          clear hb y0 y1 y2
          by_cases hE2 : Sh.opErr N y = 0
          · rw [hE2]
            have hp0 : pastErr N x y = 0 := past_zero.2 ⟨HE1.out, hE2⟩
            have he := HE.out
            have hz := HZ.out
            rw [hp0] at he
            subst he
            rw [if_pos rfl] at hz
            have HPO : Hid (∀ W, Calls Try.prog 15 #[.agg #[.int .i64 x.k, .int .i64 x.a, .int .u8 (x.b.toNat : Int)], .agg #[.int .i64 y.k, .int .i64 y.a, .int .u8 (y.b.toNat : Int)], .bool f] W fun e w' => e = .returned (.agg #[.int .i64 z.k, .int .i64 z.a, .int .u8 (z.b.toNat : Int)]) ∧ Below W.heap.size W w') := fun W => by
              rw [hz]
              exact PastOf_any x y f W (op_bound HE1.out)
            have hsame := opB_same z.k z.a (z.b.toNat : Int)
            have HXC : Hid (∀ W, Below w13.heap.size w13 W → (W.cell? ⟨w4.heap.size, 0, none⟩ = some (.int .i64 z.k) ∧ W.cell? ⟨w4.heap.size, 1, none⟩ = some (.int .i64 z.a) ∧ W.cell? ⟨w4.heap.size, 2, none⟩ = some (.int .u8 (z.b.toNat : Int))) ∧ (W.cell? ⟨w.heap.size, 0, none⟩ = some (.int .i64 x.k) ∧ W.cell? ⟨w.heap.size, 1, none⟩ = some (.int .i64 x.a) ∧ W.cell? ⟨w.heap.size, 2, none⟩ = some (.int .u8 (x.b.toNat : Int))) ∧ (W.cell? ⟨w.heap.size + 1, 0, none⟩ = some (.int .i64 y.k) ∧ W.cell? ⟨w.heap.size + 1, 1, none⟩ = some (.int .i64 y.a) ∧ W.cell? ⟨w.heap.size + 1, 2, none⟩ = some (.int .u8 (y.b.toNat : Int)))) := fun W hW => ⟨(BZ.out.keep hW).2, (BX.out.keep hW).2, (BY.out.keep hW).2⟩
            have hDr : Below w13.heap.size w13 w13.drew := bl_drewN (Below.refl _ _) 1
            clear hp0 hz HE HZ hE2 HE1
            go_wp2
            go_region_held3 (fun W => (W.cell? ⟨w4.heap.size, 0, none⟩ = some (.int .i64 z.k) ∧ W.cell? ⟨w4.heap.size, 1, none⟩ = some (.int .i64 z.a) ∧ W.cell? ⟨w4.heap.size, 2, none⟩ = some (.int .u8 (z.b.toNat : Int))) ∧ (W.cell? ⟨w.heap.size, 0, none⟩ = some (.int .i64 x.k) ∧ W.cell? ⟨w.heap.size, 1, none⟩ = some (.int .i64 x.a) ∧ W.cell? ⟨w.heap.size, 2, none⟩ = some (.int .u8 (x.b.toNat : Int))) ∧ (W.cell? ⟨w.heap.size + 1, 0, none⟩ = some (.int .i64 y.k) ∧ W.cell? ⟨w.heap.size + 1, 1, none⟩ = some (.int .i64 y.a) ∧ W.cell? ⟨w.heap.size + 1, 2, none⟩ = some (.int .u8 (y.b.toNat : Int)))) (first | exact HXC.out _ hDr | exact hS14) (first | (go_at_call 15; (with_reducible refine (HPO.out _).mono ?_); rintro e w14 ⟨rfl, hb14⟩; have hb15 := bl_then hDr hb14; have hS14 := HXC.out _ hb15))
            go_wp2
            go_ret
            exact ⟨rfl, bl_then HB.out hb15⟩
          · have hE2' : (Sh.opErr N y != 0) = true := bne_iff_ne.2 hE2
            have hE2'' : (Sh.opErr N y == 0) = false := beq_eq_false_iff_ne.2 hE2
            have he := HE.out
            have hz := HZ.out
            have hpe : pastErr N x y = Sh.opErr N y := by unfold pastErr; rw [if_pos HE1.out]
            rw [hpe] at he
            subst he
            rw [if_neg hE2] at hz
            have z0 : w13.cell? ⟨w4.heap.size, 0, none⟩ = some (.int .i64 0) := by have := BZ.out.2.1; rw [hz] at this; exact this
            have z1 : w13.cell? ⟨w4.heap.size, 1, none⟩ = some (.int .i64 0) := by have := BZ.out.2.2.1; rw [hz] at this; exact this
            have z2 : w13.cell? ⟨w4.heap.size, 2, none⟩ = some (.int .u8 0) := by have := BZ.out.2.2.2; rw [hz] at this; exact this
            have hsame := opB_same 0 0 0
            clear hpe hz HE HZ hE2 HE1
            go_wp2
            go_ret
            exact ⟨rfl, HB.out⟩
        · have hE1' : (Sh.opErr N x != 0) = true := bne_iff_ne.2 hE1
          have hE1'' : (Sh.opErr N x == 0) = false := beq_eq_false_iff_ne.2 hE1
          have hpe : pastErr N x y = Sh.opErr N x := by unfold pastErr; rw [if_neg hE1]
          rw [hpe] at he
          subst he
          rw [if_neg hE1] at hz
          have z0 : w12.cell? ⟨w4.heap.size, 0, none⟩ = some (.int .i64 0) := by have := BZ.out.2.1; rw [hz] at this; exact this
          have z1 : w12.cell? ⟨w4.heap.size, 1, none⟩ = some (.int .i64 0) := by have := BZ.out.2.2.1; rw [hz] at this; exact this
          have z2 : w12.cell? ⟨w4.heap.size, 2, none⟩ = some (.int .u8 0) := by have := BZ.out.2.2.2; rw [hz] at this; exact this
          have hsame := opB_same 0 0 0
          clear hpe hz hE1
          go_wp2
          go_ret
          exact ⟨rfl, HB.out⟩
  · obtain ⟨rfl, ht⟩ := HD.out
    rw [if_neg hE] at ht
    have hE1 : (Sh.opErr (s.size : Int) x != 0) = true := bne_iff_ne.2 hE
    have hE2 : (Sh.opErr (s.size : Int) x == 0) = false := beq_eq_false_iff_ne.2 hE
    clear HD hE
    subst ht
    obtain ⟨-, x0, x1, x2⟩ := BX.out
    go_wp2_with fail
    with_reducible refine (OpErr_any N x _ HN.out HX.out).mono ?_
    rintro e w12 ⟨rfl, hb⟩
    replace BX := hid (BX.out.keep hb)
    replace BY := hid (BY.out.keep hb)
    replace BZ := hid (BZ.out.keep hb)
    replace HB := hid (bl_then HB.out hb)
    clear hb x0 x1 x2
    obtain ⟨he, hz⟩ := HP.out
    clear HP
    by_cases hE1 : Sh.opErr N x = 0
    · rw [hE1]
      obtain ⟨-, y0, y1, y2⟩ := BY.out
      have HE1 := hid hE1
      have HE := hid he
      have HZ := hid hz
      clear he hz hE1
      go_wp2_with fail
      with_reducible refine (OpErr_any N y _ HN.out HY.out).mono ?_
      rintro e w13 ⟨rfl, hb⟩
      replace BX := hid (BX.out.keep hb)
      replace BY := hid (BY.out.keep hb)
      replace BZ := hid (BZ.out.keep hb)
      replace HB := hid (bl_then HB.out hb)
      clear hb y0 y1 y2
      by_cases hE2 : Sh.opErr N y = 0
      · rw [hE2]
        have hp0 : pastErr N x y = 0 := past_zero.2 ⟨HE1.out, hE2⟩
        have he := HE.out
        have hz := HZ.out
        rw [hp0] at he
        subst he
        rw [if_pos rfl] at hz
        have HPO : Hid (∀ W, Calls Try.prog 15 #[.agg #[.int .i64 x.k, .int .i64 x.a, .int .u8 (x.b.toNat : Int)], .agg #[.int .i64 y.k, .int .i64 y.a, .int .u8 (y.b.toNat : Int)], .bool f] W fun e w' => e = .returned (.agg #[.int .i64 z.k, .int .i64 z.a, .int .u8 (z.b.toNat : Int)]) ∧ Below W.heap.size W w') := fun W => by
          rw [hz]
          exact PastOf_any x y f W (op_bound HE1.out)
        have hsame := opB_same z.k z.a (z.b.toNat : Int)
        have HXC : Hid (∀ W, Below w13.heap.size w13 W → (W.cell? ⟨w4.heap.size, 0, none⟩ = some (.int .i64 z.k) ∧ W.cell? ⟨w4.heap.size, 1, none⟩ = some (.int .i64 z.a) ∧ W.cell? ⟨w4.heap.size, 2, none⟩ = some (.int .u8 (z.b.toNat : Int))) ∧ (W.cell? ⟨w.heap.size, 0, none⟩ = some (.int .i64 x.k) ∧ W.cell? ⟨w.heap.size, 1, none⟩ = some (.int .i64 x.a) ∧ W.cell? ⟨w.heap.size, 2, none⟩ = some (.int .u8 (x.b.toNat : Int))) ∧ (W.cell? ⟨w.heap.size + 1, 0, none⟩ = some (.int .i64 y.k) ∧ W.cell? ⟨w.heap.size + 1, 1, none⟩ = some (.int .i64 y.a) ∧ W.cell? ⟨w.heap.size + 1, 2, none⟩ = some (.int .u8 (y.b.toNat : Int)))) := fun W hW => ⟨(BZ.out.keep hW).2, (BX.out.keep hW).2, (BY.out.keep hW).2⟩
        have hDr : Below w13.heap.size w13 w13.drew := bl_drewN (Below.refl _ _) 1
        clear hp0 hz HE HZ hE2 HE1
        go_wp2
        go_region_held3 (fun W => (W.cell? ⟨w4.heap.size, 0, none⟩ = some (.int .i64 z.k) ∧ W.cell? ⟨w4.heap.size, 1, none⟩ = some (.int .i64 z.a) ∧ W.cell? ⟨w4.heap.size, 2, none⟩ = some (.int .u8 (z.b.toNat : Int))) ∧ (W.cell? ⟨w.heap.size, 0, none⟩ = some (.int .i64 x.k) ∧ W.cell? ⟨w.heap.size, 1, none⟩ = some (.int .i64 x.a) ∧ W.cell? ⟨w.heap.size, 2, none⟩ = some (.int .u8 (x.b.toNat : Int))) ∧ (W.cell? ⟨w.heap.size + 1, 0, none⟩ = some (.int .i64 y.k) ∧ W.cell? ⟨w.heap.size + 1, 1, none⟩ = some (.int .i64 y.a) ∧ W.cell? ⟨w.heap.size + 1, 2, none⟩ = some (.int .u8 (y.b.toNat : Int)))) (first | exact HXC.out _ hDr | exact hS14) (first | (go_at_call 15; (with_reducible refine (HPO.out _).mono ?_); rintro e w14 ⟨rfl, hb14⟩; have hb15 := bl_then hDr hb14; have hS14 := HXC.out _ hb15))
        go_wp2
        go_ret
        exact ⟨rfl, bl_then HB.out hb15⟩
      · have hE2' : (Sh.opErr N y != 0) = true := bne_iff_ne.2 hE2
        have hE2'' : (Sh.opErr N y == 0) = false := beq_eq_false_iff_ne.2 hE2
        have he := HE.out
        have hz := HZ.out
        have hpe : pastErr N x y = Sh.opErr N y := by unfold pastErr; rw [if_pos HE1.out]
        rw [hpe] at he
        subst he
        rw [if_neg hE2] at hz
        have z0 : w13.cell? ⟨w4.heap.size, 0, none⟩ = some (.int .i64 0) := by have := BZ.out.2.1; rw [hz] at this; exact this
        have z1 : w13.cell? ⟨w4.heap.size, 1, none⟩ = some (.int .i64 0) := by have := BZ.out.2.2.1; rw [hz] at this; exact this
        have z2 : w13.cell? ⟨w4.heap.size, 2, none⟩ = some (.int .u8 0) := by have := BZ.out.2.2.2; rw [hz] at this; exact this
        have hsame := opB_same 0 0 0
        clear hpe hz HE HZ hE2 HE1
        go_wp2
        go_ret
        exact ⟨rfl, HB.out⟩
    · have hE1' : (Sh.opErr N x != 0) = true := bne_iff_ne.2 hE1
      have hE1'' : (Sh.opErr N x == 0) = false := beq_eq_false_iff_ne.2 hE1
      have hpe : pastErr N x y = Sh.opErr N x := by unfold pastErr; rw [if_neg hE1]
      rw [hpe] at he
      subst he
      rw [if_neg hE1] at hz
      have z0 : w12.cell? ⟨w4.heap.size, 0, none⟩ = some (.int .i64 0) := by have := BZ.out.2.1; rw [hz] at this; exact this
      have z1 : w12.cell? ⟨w4.heap.size, 1, none⟩ = some (.int .i64 0) := by have := BZ.out.2.2.1; rw [hz] at this; exact this
      have z2 : w12.cell? ⟨w4.heap.size, 2, none⟩ = some (.int .u8 0) := by have := BZ.out.2.2.2; rw [hz] at this; exact this
      have hsame := opB_same 0 0 0
      clear hpe hz hE1
      go_wp2
      go_ret
      exact ⟨rfl, HB.out⟩
end Go.Proofs.Ytgkagigagcamoaa
