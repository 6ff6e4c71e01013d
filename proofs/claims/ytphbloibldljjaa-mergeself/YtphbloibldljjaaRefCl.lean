
/-
quillref.Clash; slices.ContainsFunc with quillref.BothOf's closure: does an edit clash with one of a row? slices.Index and slices.Contains at edits; the closure that compares places.
-/
import Derived.Test.YtphbloibldljjaaMgMath
import Derived.Test.YtphbloibldljjaaEEqual
namespace Go.Proofs.Ytphbloibldljjaa
open Go.RowKit

/-- An edit as small numbers. -/
def Bn (x : Es.Ev) : Prop := 0 ≤ x.a ∧ x.a ≤ 1000 ∧ 0 ≤ x.d ∧ x.d ≤ 1000
theorem evB_sm (x y : Es.Ev) : evB x.a x.d x.s y.a y.d y.s = Es.sm x y := by
  rw [Bool.eq_iff_iff, evB_iff, Es.sm_iff]
theorem ev_eql (a b : Int) (s : ByteArray) (c d : Int) (t : ByteArray) (w : World) : (binOp .eql 30 (.agg #[.int .i64 a, .int .i64 b, .string s]) (.agg #[.int .i64 c, .int .i64 d, .string t])).run Try.prog w = .ok (.bool (evB a b s c d t)) w := by
  rw [run_eql_struct, run_equalIn_agg w 9999 30 _ _ (by kernel_rfl) (by kernel_rfl)]
  have hf : (Try.prog.fieldsOf 30).toList = [{ name := "At", type := 3, offset := 0, embedded := false, tag := "", pkgPath := "", byteOffset := 0 }, { name := "Del", type := 3, offset := 1, embedded := false, tag := "", pkgPath := "", byteOffset := 8 }, { name := "Ins", type := 9, offset := 2, embedded := false, tag := "", pkgPath := "", byteOffset := 16 }] := by kernel_rfl
  rw [hf]
  have hz : ∀ w, (isAgg 3).run Try.prog w = .ok false w := Try.isAgg3
  have hs : ∀ w, (Go.sizeOf 3).run Try.prog w = .ok 1 w := Try.sizeOf3
  have he : ∀ (x y : Int) (w : World), (Op.equalIn 9999 3 (.int .i64 x) (.int .i64 y)).run Try.prog w = .ok (x == y) w := fun x y w => run_equalIn_int w 9998 3 .i64 .i64 x y Try.underlying3
  have hz2 : ∀ w, (isAgg 9).run Try.prog w = .ok false w := Try.isAgg9
  have hs2 : ∀ w, (Go.sizeOf 9).run Try.prog w = .ok 1 w := Try.sizeOf9
  have he2 : ∀ (x y : ByteArray) (w : World), (Op.equalIn 9999 9 (.string x) (.string y)).run Try.prog w = .ok (x.toList == y.toList) w := fun x y w => run_equalIn_string w 9998 9 x y Try.underlying9
  simp [Op.eqFields, part, hz, hs, he, hz2, hs2, he2, evB]
  by_cases h1 : a = c <;> by_cases h2 : b = d <;> by_cases h3 : s.toList = t.toList <;> simp [h1, h2, h3]
/-- Two boxes, one behind the other. -/
theorem two_boxes (w : World) (x y : Es.Ev) (t : TypeId) : ((w.alloc (.cells #[.int .i64 x.a, .int .i64 x.d, .string x.s] t)).alloc (.cells #[.int .i64 y.a, .int .i64 y.d, .string y.s] t)).cell? ⟨w.heap.size, 0, none⟩ = some (.int .i64 x.a) ∧
    ((w.alloc (.cells #[.int .i64 x.a, .int .i64 x.d, .string x.s] t)).alloc (.cells #[.int .i64 y.a, .int .i64 y.d, .string y.s] t)).cell? ⟨w.heap.size, 1, none⟩ = some (.int .i64 x.d) ∧
    ((w.alloc (.cells #[.int .i64 x.a, .int .i64 x.d, .string x.s] t)).alloc (.cells #[.int .i64 y.a, .int .i64 y.d, .string y.s] t)).cell? ⟨w.heap.size, 2, none⟩ = some (.string x.s) ∧
    ((w.alloc (.cells #[.int .i64 x.a, .int .i64 x.d, .string x.s] t)).alloc (.cells #[.int .i64 y.a, .int .i64 y.d, .string y.s] t)).cell? ⟨w.heap.size + 1, 0, none⟩ = some (.int .i64 y.a) ∧
    ((w.alloc (.cells #[.int .i64 x.a, .int .i64 x.d, .string x.s] t)).alloc (.cells #[.int .i64 y.a, .int .i64 y.d, .string y.s] t)).cell? ⟨w.heap.size + 1, 1, none⟩ = some (.int .i64 y.d) ∧
    ((w.alloc (.cells #[.int .i64 x.a, .int .i64 x.d, .string x.s] t)).alloc (.cells #[.int .i64 y.a, .int .i64 y.d, .string y.s] t)).cell? ⟨w.heap.size + 1, 2, none⟩ = some (.string y.s) := by
  obtain ⟨a1, a2, a3⟩ := ev_new w x t
  have hlt : w.heap.size < (w.alloc (.cells #[.int .i64 x.a, .int .i64 x.d, .string x.s] t)).heap.size := by simp
  have hb := bl_new (w.alloc (.cells #[.int .i64 x.a, .int .i64 x.d, .string x.s] t)) (.cells #[.int .i64 y.a, .int .i64 y.d, .string y.s] t)
  have hy := ev_new (w.alloc (.cells #[.int .i64 x.a, .int .i64 x.d, .string x.s] t)) y t
  rw [show (w.alloc (.cells #[.int .i64 x.a, .int .i64 x.d, .string x.s] t)).heap.size = w.heap.size + 1 by simp] at hy
  exact ⟨(hb.cell (p := ⟨w.heap.size, 0, none⟩) hlt).trans a1, (hb.cell (p := ⟨w.heap.size, 1, none⟩) hlt).trans a2, (hb.cell (p := ⟨w.heap.size, 2, none⟩) hlt).trans a3, hy.1, hy.2.1, hy.2.2⟩
theorem two_below (w : World) (x y : Es.Ev) (t : TypeId) : Below w.heap.size w ((w.alloc (.cells #[.int .i64 x.a, .int .i64 x.d, .string x.s] t)).alloc (.cells #[.int .i64 y.a, .int .i64 y.d, .string y.s] t)) := bl_then (bl_new w _) (bl_new _ _)
set_option maxHeartbeats 1000000 in
theorem refClash_any (x y : Es.Ev) (w : World) (hx : Bn x) (hy : Bn y) :
    Calls Try.prog 29 #[.agg #[.int .i64 x.a, .int .i64 x.d, .string x.s], .agg #[.int .i64 y.a, .int .i64 y.d, .string y.s]] w fun e w' => e = .returned (.bool (Es.cl x y)) ∧ Below w.heap.size w w' := by
  obtain ⟨c0, c1, c2, c3, c4, c5⟩ := two_boxes w x y 30
  have HB := hid (two_below w x y 30)
  have hnq := ev_neq
  have hgd := ev_guard
  obtain ⟨x1, x2, x3, x4⟩ := hx
  obtain ⟨y1, y2, y3, y4⟩ := hy
  have w1 : IntKind.i64.wrap (y.a + y.d) = y.a + y.d := IntWalk.i64_in _ (by omega)
  have w2 : IntKind.i64.wrap (x.a + x.d) = x.a + x.d := IntWalk.i64_in _ (by omega)
  have hsm := evB_sm x y
  have hcl : Es.cl x y = (!Es.sm x y && decide (x.a ≤ y.a + y.d) && decide (y.a ≤ x.a + x.d)) := rfl
  rw [← hsm] at hcl
  obtain ⟨r, hr⟩ : ∃ r, r = Es.cl x y := ⟨_, rfl⟩
  rw [← hr] at hcl ⊢
  have HR := hid hcl
  clear hsm hcl hr x1 x2 x3 x4 y1 y2 y3 y4
  go_enter Try.func29, Try.ntmps29
  by_cases h1 : evB x.a x.d x.s y.a y.d y.s = true
  · have hr : r = false := by rw [HR.out, h1]; rfl
    subst hr
    clear HR
    go_wp2
    go_ret
    exact ⟨rfl, HB.out⟩
  · have h1 := Bool.eq_false_iff.2 h1
    by_cases h2 : x.a ≤ y.a + y.d
    · have h2' := decide_eq_true h2
      by_cases h3 : y.a ≤ x.a + x.d
      · have h3' := decide_eq_true h3
        have hr : r = true := by rw [HR.out, h1, h2', h3']; rfl
        subst hr
        clear HR
        go_wp2
        go_ret
        exact ⟨rfl, HB.out⟩
      · have h3' := decide_eq_false h3
        have hr : r = false := by rw [HR.out, h1, h2', h3']; rfl
        subst hr
        clear HR
        go_wp2
        go_ret
        exact ⟨rfl, HB.out⟩
    · have h2' := decide_eq_false h2
      have hr : r = false := by rw [HR.out, h1, h2']; rfl
      subst hr
      clear HR
      go_wp2
      go_ret
      exact ⟨rfl, HB.out⟩
theorem clashOne_any (x y : Es.Ev) (N : Nat) (w : World) (hN : w.cell? ⟨N, 0, none⟩ = some (.int .i64 x.a) ∧ w.cell? ⟨N, 1, none⟩ = some (.int .i64 x.d) ∧ w.cell? ⟨N, 2, none⟩ = some (.string x.s)) (hx : Bn x) (hy : Bn y) :
    Calls Try.prog 28 #[.agg #[.int .i64 y.a, .int .i64 y.d, .string y.s], .pointer (some ⟨N, 0, none⟩)] w fun e w' => e = .returned (.bool (Es.cl x y)) ∧ Below w.heap.size w w' := by
  have hlt := World.block_lt_of_cell? w _ hN.1
  have hb := bl_new w (.cells #[.int .i64 y.a, .int .i64 y.d, .string y.s] 30)
  have n0 := (hb.cell (p := ⟨N, 0, none⟩) hlt).trans hN.1
  have n1 := (hb.cell (p := ⟨N, 1, none⟩) hlt).trans hN.2.1
  have n2 := (hb.cell (p := ⟨N, 2, none⟩) hlt).trans hN.2.2
  obtain ⟨b0, b1, b2⟩ := ev_new w y 30
  have HB := hid hb
  have HX := hid hx
  have HY := hid hy
  clear hN hlt hb hx hy
  go_enter Try.func28, Try.ntmps28
  go_wp2_with fail
  with_reducible refine (refClash_any x y _ HX.out HY.out).mono ?_
  rintro e w1 ⟨rfl, hb2⟩
  have HB2 := hid (bl_then HB.out hb2)
  clear hb2 n0 n1 n2 b0 b1 b2
  go_wp2
  go_ret
  exact ⟨rfl, HB2.out⟩
theorem clashIdx_any {A : Option Addr} {n c : Nat} {h : Nat → Es.Ev} (x : Es.Ev) (N : Nat) (w : World) (hN : w.cell? ⟨N, 0, none⟩ = some (.int .i64 x.a) ∧ w.cell? ⟨N, 1, none⟩ = some (.int .i64 x.d) ∧ w.cell? ⟨N, 2, none⟩ = some (.string x.s)) (hx : Bn x) (hr : EvRow w A n h) (hh : ∀ k, k < n → Bn (h k)) (hn : n ≤ 1000) :
    Calls Try.prog 43 #[.slice A n c, .func (.func 28) #[] #[.pointer (some ⟨N, 0, none⟩)]] w fun e w' =>
      (∃ z : Int, e = .returned (.int .i64 z) ∧ decide (0 ≤ z) = (el h n).any (Es.cl x)) ∧ Below w.heap.size w w' := by
  have HN := hid hN
  have HX := hid hx
  have H := hid hr
  have HH := hid hh
  have hlt := World.block_lt_of_cell? w _ hN.1
  have HLT := hid hlt
  clear hN hx hr hh hlt
  go_enter Try.func43, Try.ntmps43
  go_wp2
  go_loopw [8] (fun i wr => ∃ k : Nat, k ≤ n ∧ i = .int .i64 k ∧ Hid (∀ j, j < k → Es.cl x (h j) = false) ∧ Hid (Below w.heap.size w wr)) (fun i _ => n - (intOf i).toNat)
  case atStart => exact ⟨0, by omega, rfl, hid (fun j hj => by omega), Below.refl _ _⟩
  case round =>
    obtain ⟨k, hk, rfl, HZ, HB⟩ := hrel
    by_cases hkm : k < n
    · obtain ⟨b, o, rfl, hlt, c0, c1, c2⟩ := (H.out.keep HB.out) k hkm
      have hkn : (k : Int) < (n : Int) := by omega
      have HHK := hid (HH.out k hkm)
      have HNW : Hid (wr.cell? ⟨N, 0, none⟩ = some (.int .i64 x.a) ∧ wr.cell? ⟨N, 1, none⟩ = some (.int .i64 x.d) ∧ wr.cell? ⟨N, 2, none⟩ = some (.string x.s)) :=
        ⟨(HB.out.cell (p := ⟨N, 0, none⟩) HLT.out).trans HN.out.1, (HB.out.cell (p := ⟨N, 1, none⟩) HLT.out).trans HN.out.2.1, (HB.out.cell (p := ⟨N, 2, none⟩) HLT.out).trans HN.out.2.2⟩
      obtain ⟨y, hy⟩ : ∃ y, y = h k := ⟨_, rfl⟩
      have HY := hid hy
      rw [← hy] at c0 c1 c2 HHK
      clear hy
      go_wp2_with fail
      with_reducible refine (clashOne_any x y N _ HNW.out HX.out HHK.out).mono ?_
      rintro e w1 ⟨rfl, hb2⟩
      have HB2 := hid (bl_then HB.out hb2)
      clear hb2 c0 c1 c2
      by_cases hl : Es.cl x y = true
      · have HF : Hid (decide (0 ≤ (k : Int)) = (el h n).any (Es.cl x)) := by
          show _ = _
          rw [decide_eq_true (by omega)]
          refine (List.any_eq_true.2 ⟨h k, ?_, by rw [← HY.out]; exact hl⟩).symm
          unfold el
          exact List.mem_map.2 ⟨k, List.mem_range.2 hkm, rfl⟩
        rw [hl]
        clear hl
        go_wp2
        go_ret
        exact ⟨⟨_, rfl, HF.out⟩, HB2.out⟩
      · have hl := Bool.eq_false_iff.2 hl
        have HZ2 : Hid (∀ j, j < k + 1 → Es.cl x (h j) = false) := fun j hj => by
          by_cases hjk : j < k
          · exact HZ.out j hjk
          · obtain rfl : j = k := by omega
            rw [← HY.out]; exact hl
        rw [hl]
        clear hl HZ
        go_wp2
        go_roundw
        case measure => simp [intOf]; omega
        case rel => exact ⟨k + 1, by omega, by go_num, HZ2, HB2⟩
    · have hdl : decide ((k : Int) < (n : Int)) = false := decide_eq_false (by omega)
      obtain rfl : k = n := by omega
      have HF : Hid (decide (0 ≤ (-1 : Int)) = (el h k).any (Es.cl x)) := by
        show _ = _
        rw [decide_eq_false (by decide)]
        refine (List.any_eq_false.2 fun y hy => ?_).symm
        unfold el at hy
        obtain ⟨j, hj, rfl⟩ := List.mem_map.1 hy
        rw [HZ.out j (List.mem_range.1 hj)]
        decide
      clear HZ
      go_wp2
      go_ret
      exact ⟨⟨_, rfl, HF.out⟩, HB.out⟩
theorem clashHas_any {A : Option Addr} {n c : Nat} {h : Nat → Es.Ev} (x : Es.Ev) (N : Nat) (w : World) (hN : w.cell? ⟨N, 0, none⟩ = some (.int .i64 x.a) ∧ w.cell? ⟨N, 1, none⟩ = some (.int .i64 x.d) ∧ w.cell? ⟨N, 2, none⟩ = some (.string x.s)) (hx : Bn x) (hr : EvRow w A n h) (hh : ∀ k, k < n → Bn (h k)) (hn : n ≤ 1000) :
    Calls Try.prog 27 #[.slice A n c, .func (.func 28) #[] #[.pointer (some ⟨N, 0, none⟩)]] w fun e w' => e = .returned (.bool ((el h n).any (Es.cl x))) ∧ Below w.heap.size w w' := by
  have hI := clashIdx_any (c := c) x N w hN hx hr hh hn
  clear hN hx hr hh
  go_enter Try.func27, Try.ntmps27
  go_wp2_with fail
  with_reducible refine hI.mono ?_
  rintro e w1 ⟨⟨z, rfl, hz⟩, hb⟩
  have HZ := hid hz
  clear hz hI
  go_wp2
  go_ret
  exact ⟨ret_bool HZ.out, hb⟩
theorem cmpEv_any (x y : Es.Ev) (w : World) (hx : Bn x) (hy : Bn y) :
    Calls Try.prog 31 #[.agg #[.int .i64 x.a, .int .i64 x.d, .string x.s], .agg #[.int .i64 y.a, .int .i64 y.d, .string y.s]] w fun e w' => e = .returned (.int .i64 (x.a - y.a)) ∧ Below w.heap.size w w' := by
  obtain ⟨c0, c1, c2, c3, c4, c5⟩ := two_boxes w x y 30
  have HB := hid (two_below w x y 30)
  have hw : IntKind.i64.wrap (x.a - y.a) = x.a - y.a := IntWalk.i64_in _ (by unfold Bn at hx hy; omega)
  clear hx hy
  go_enter Try.func31, Try.ntmps31
  go_wp2
  go_ret
  exact ⟨rfl, HB.out⟩
set_option maxHeartbeats 1000000 in
theorem evIdx_any {A : Option Addr} {n c : Nat} {h : Nat → Es.Ev} (x : Es.Ev) (w : World) (hr : EvRow w A n h) (hn : n ≤ maxLen) :
    Calls Try.prog 45 #[.slice A n c, .agg #[.int .i64 x.a, .int .i64 x.d, .string x.s]] w fun e w' =>
      (∃ z : Int, e = .returned (.int .i64 z) ∧ decide (0 ≤ z) = Es.has (el h n) x) ∧ Below w.heap.size w w' := by
  have hq := ev_eql
  have hgd := ev_guard
  have H := hid (hr.keep (bl_new w (.cells #[.int .i64 x.a, .int .i64 x.d, .string x.s] 30)))
  have HX := hid (ev_new w x 30)
  have HB := hid (bl_new w (.cells #[.int .i64 x.a, .int .i64 x.d, .string x.s] 30))
  unfold maxLen at hn
  clear hr
  go_enter Try.func45, Try.ntmps45
  go_wp2
  generalize w.alloc (.cells #[.int .i64 x.a, .int .i64 x.d, .string x.s] 30) = w0 at *
  obtain ⟨x0, x1, x2⟩ := HX.out
  go_loopw [8] (fun i wr => ∃ k : Nat, k ≤ n ∧ i = .int .i64 k ∧ Hid (∀ j, j < k → h j ≠ x) ∧ ∃ d, wr = w0.drewN d) (fun i _ => n - (intOf i).toNat)
  case atStart => exact ⟨0, by omega, rfl, hid (fun j hj => by omega), 0, rfl⟩
  case round =>
    obtain ⟨k, hk, rfl, HZ, d, rfl⟩ := hrel
    by_cases hkn : k < n
    · obtain ⟨b, o, rfl, hlt, c0, c1, c2⟩ := H.out k hkn
      have hkn' : (k : Int) < (n : Int) := by omega
      clear hlt
      obtain ⟨y, hy⟩ : ∃ y, y = h k := ⟨_, rfl⟩
      have HY := hid hy
      rw [← hy] at c0 c1 c2
      clear hy
      by_cases he : x = y
      · have HF : Hid (decide (0 ≤ (k : Int)) = Es.has (el h n) x) := by
          show _ = _
          rw [decide_eq_true (by omega)]
          refine (Es.has_iff.2 ?_).symm
          rw [he, HY.out]
          unfold el
          exact List.mem_map.2 ⟨k, List.mem_range.2 hkn, rfl⟩
        subst he
        have hb1 := evB_same x.a x.d x.s
        clear HZ
        go_wp2
        go_quiet (fail)
        go_wp2
        go_ret
        exact ⟨⟨_, rfl, HF.out⟩, bl_drewN (bl_drewN HB.out _) _⟩
      · have hb1 := evB_no he
        have HZ2 : Hid (∀ j, j < k + 1 → h j ≠ x) := fun j hj => by
          by_cases hjk : j < k
          · exact HZ.out j hjk
          · obtain rfl : j = k := by omega
            rw [← HY.out]; exact fun e => he e.symm
        clear he HZ
        go_wp2
        go_quiet (fail)
        go_wp2
        go_roundw
        case measure => simp [intOf]; omega
        case rel => exact ⟨k + 1, by omega, by go_num, HZ2, _, rfl⟩
    · have hdl : decide ((k : Int) < (n : Int)) = false := decide_eq_false (by omega)
      obtain rfl : k = n := by omega
      have HF : Hid (decide (0 ≤ (-1 : Int)) = Es.has (el h k) x) := by
        show _ = _
        rw [decide_eq_false (by decide)]
        refine (Es.has_no.2 fun hm => ?_).symm
        unfold el at hm
        obtain ⟨j, hj, e⟩ := List.mem_map.1 hm
        exact HZ.out j (List.mem_range.1 hj) e
      clear HZ
      go_wp2
      go_ret
      exact ⟨⟨_, rfl, HF.out⟩, bl_drewN HB.out _⟩
theorem evHas_any {A : Option Addr} {n c : Nat} {h : Nat → Es.Ev} (x : Es.Ev) (w : World) (hr : EvRow w A n h) (hn : n ≤ maxLen) :
    Calls Try.prog 33 #[.slice A n c, .agg #[.int .i64 x.a, .int .i64 x.d, .string x.s]] w fun e w' => e = .returned (.bool (Es.has (el h n) x)) ∧ Below w.heap.size w w' := by
  have HI := hid (evIdx_any (c := c) x _ (hr.keep (bl_new w (.cells #[.int .i64 x.a, .int .i64 x.d, .string x.s] 30))) hn)
  obtain ⟨x0, x1, x2⟩ := ev_new w x 30
  have HB := hid (bl_new w (.cells #[.int .i64 x.a, .int .i64 x.d, .string x.s] 30))
  clear hr
  go_enter Try.func33, Try.ntmps33
  go_wp2_with fail
  with_reducible refine HI.out.mono ?_
  rintro e w1 ⟨⟨z, rfl, hz⟩, hb⟩
  have HZ := hid hz
  have HB2 := hid (bl_then HB.out hb)
  clear hz hb x0 x1 x2
  go_wp2
  go_ret
  exact ⟨ret_bool HZ.out, HB2.out⟩
end Go.Proofs.Ytphbloibldljjaa
