
/-
The contracts of shift.Check, shift.past and shift.Past.
-/
import Derived.Test.YtgkagigagcamoaaShP
import Derived.Test.YtgkagigagcamoaaOpRow
namespace Go.Proofs.Ytgkagigagcamoaa
open Go.RowKit

theorem by_u8 (b : UInt8) : 0 ≤ (b.toNat : Int) ∧ (b.toNat : Int) ≤ 255 := by have := b.toNat_lt; omega
theorem by_zero {b : UInt8} : b = 0 ↔ (b.toNat : Int) = 0 := by
  constructor
  · rintro rfl; rfl
  · intro h; exact UInt8.toNat_inj.1 (by simpa using h)
theorem res_3rd (w : World) (A B C : Obj) : (((w.alloc A).alloc B).alloc C).heap[w.heap.size + 1 + 1]? = some C := by
  have h := heap_alloc_new ((w.alloc A).alloc B) C
  rw [show ((w.alloc A).alloc B).heap.size = w.heap.size + 1 + 1 by simp] at h
  exact h

set_option maxHeartbeats 2000000 in
theorem SCheck_any (n : Int) (x : Sh.Op) (w : World) (_ : N64 n) (hx : OpWf x) :
    Calls Try.prog 13 #[.int .i64 n, .agg #[.int .i64 x.k, .int .i64 x.a, .int .u8 (x.b.toNat : Int)]] w fun e w' => e = .returned (.int .i64 (Sh.opErr n x)) ∧ Below w.heap.size w w' := by
  obtain ⟨k, a, b⟩ := x
  obtain ⟨c0, c1, c2⟩ := op_new w ⟨k, a, b⟩ 23
  obtain ⟨x1, x2, x3, x4⟩ := hx
  simp only at c0 c1 c2 x1 x2 x3 x4
  have HB := hid (bl_new w (.cells #[.int .i64 k, .int .i64 a, .int .u8 (b.toNat : Int)] 23))
  have hb8 := by_u8 b
  have hbz := by_zero (b := b)
  unfold Sh.opErr
  simp only
  by_cases h0 : n < 0 ∨ 200 < n
  · rw [if_pos h0]
    by_cases h1 : n < 0
    · have h1' := decide_eq_true h1
      clear x1 x2 x3 x4 hb8 hbz h0 h1
      go_enter Try.func13, Try.ntmps13
      go_wp2
      go_ret
      exact ⟨rfl, HB.out⟩
    · have h1' := decide_eq_false h1
      have h2' : decide (200 < n) = true := decide_eq_true (by omega)
      clear x1 x2 x3 x4 hb8 hbz h0 h1
      go_enter Try.func13, Try.ntmps13
      go_wp2
      go_ret
      exact ⟨rfl, HB.out⟩
  · rw [if_neg h0]
    have h1' : decide (n < 0) = false := decide_eq_false (by omega)
    have h2' : decide (200 < n) = false := decide_eq_false (by omega)
    have hw : IntKind.i64.wrap (n - 1) = n - 1 := IntWalk.i64_in _ (by omega)
    by_cases k1 : k = 1
    · subst k1
      rw [if_pos rfl]
      by_cases q1 : a < 0
      · rw [if_pos (.inl q1)]
        have q1' := decide_eq_true q1
        clear x1 x2 x3 x4 hb8 hbz q1 h0
        go_enter Try.func13, Try.ntmps13
        go_wp2
        go_ret
        exact ⟨rfl, HB.out⟩
      · have q1' := decide_eq_false q1
        by_cases q2 : n < a
        · rw [if_pos (.inr q2)]
          have q2' := decide_eq_true q2
          clear x1 x2 x3 x4 hb8 hbz q1 q2 h0
          go_enter Try.func13, Try.ntmps13
          go_wp2
          go_ret
          exact ⟨rfl, HB.out⟩
        · have q2' := decide_eq_false q2
          rw [if_neg (by omega)]
          by_cases q3 : n = 200
          · rw [if_pos q3]
            have q3' : (n == 200) = true := by rw [q3]; rfl
            clear x1 x2 x3 x4 hb8 hbz q1 q2 h0 q3
            go_enter Try.func13, Try.ntmps13
            go_wp2
            go_ret
            exact ⟨rfl, HB.out⟩
          · rw [if_neg q3]
            have q3' : (n == 200) = false := beq_eq_false_iff_ne.2 q3
            clear x1 x2 x3 x4 hb8 hbz q1 q2 h0 q3
            go_enter Try.func13, Try.ntmps13
            go_wp2
            go_ret
            exact ⟨rfl, HB.out⟩
    · rw [if_neg k1]
      have k1' := beq_eq_false_iff_ne.2 k1
      by_cases k2 : k = 2
      · subst k2
        rw [if_pos rfl]
        clear k1
        by_cases q1 : a < 0
        · rw [if_pos (.inl q1)]
          have q1' := decide_eq_true q1
          clear x1 x2 x3 x4 hb8 hbz q1 h0
          go_enter Try.func13, Try.ntmps13
          go_wp2
          go_ret
          exact ⟨rfl, HB.out⟩
        · have q1' := decide_eq_false q1
          by_cases q2 : n - 1 < a
          · rw [if_pos (.inr q2)]
            have q2' := decide_eq_true q2
            clear x1 x2 x3 x4 hb8 hbz q1 q2 h0
            go_enter Try.func13, Try.ntmps13
            go_wp2
            go_ret
            exact ⟨rfl, HB.out⟩
          · have q2' := decide_eq_false q2
            rw [if_neg (by omega)]
            by_cases q3 : b = 0
            · rw [if_pos q3]
              have q3' : ((b.toNat : Int) == 0) = true := by rw [hbz.1 q3]; rfl
              have q4' : ((b.toNat : Int) != 0) = false := by rw [hbz.1 q3]; rfl
              clear x1 x2 x3 x4 hb8 hbz q1 q2 h0 q3
              go_enter Try.func13, Try.ntmps13
              go_wp2
              go_ret
              exact ⟨rfl, HB.out⟩
            · rw [if_neg q3]
              have q3' : ((b.toNat : Int) == 0) = false := beq_eq_false_iff_ne.2 (fun e => q3 (hbz.2 e))
              have q4' : ((b.toNat : Int) != 0) = true := bne_iff_ne.2 (fun e => q3 (hbz.2 e))
              clear x1 x2 x3 x4 hb8 hbz q1 q2 h0 q3
              go_enter Try.func13, Try.ntmps13
              go_wp2
              go_ret
              exact ⟨rfl, HB.out⟩
      · rw [if_neg k2]
        have k2' := beq_eq_false_iff_ne.2 k2
        by_cases k3 : k = 3
        · subst k3
          rw [if_pos rfl]
          clear k1 k2
          by_cases q1 : a < 0
          · rw [if_pos (.inl q1)]
            have q1' := decide_eq_true q1
            clear x1 x2 x3 x4 hb8 hbz q1 h0
            go_enter Try.func13, Try.ntmps13
            go_wp2
            go_ret
            exact ⟨rfl, HB.out⟩
          · have q1' := decide_eq_false q1
            by_cases q2 : 0 < a
            · rw [if_pos (.inr q2)]
              have q2' := decide_eq_true q2
              clear x1 x2 x3 x4 hb8 hbz q1 q2 h0
              go_enter Try.func13, Try.ntmps13
              go_wp2
              go_ret
              exact ⟨rfl, HB.out⟩
            · have q2' := decide_eq_false q2
              rw [if_neg (by omega)]
              by_cases q3 : b = 0
              · rw [if_pos q3]
                have q3' : ((b.toNat : Int) == 0) = true := by rw [hbz.1 q3]; rfl
                have q4' : ((b.toNat : Int) != 0) = false := by rw [hbz.1 q3]; rfl
                clear x1 x2 x3 x4 hb8 hbz q1 q2 h0 q3
                go_enter Try.func13, Try.ntmps13
                go_wp2
                go_ret
                exact ⟨rfl, HB.out⟩
              · rw [if_neg q3]
                have q3' : ((b.toNat : Int) == 0) = false := beq_eq_false_iff_ne.2 (fun e => q3 (hbz.2 e))
                have q4' : ((b.toNat : Int) != 0) = true := bne_iff_ne.2 (fun e => q3 (hbz.2 e))
                clear x1 x2 x3 x4 hb8 hbz q1 q2 h0 q3
                go_enter Try.func13, Try.ntmps13
                go_wp2
                go_ret
                exact ⟨rfl, HB.out⟩
        · rw [if_neg k3]
          have k3' := beq_eq_false_iff_ne.2 k3
          clear k1 k2 k3
          clear x1 x2 x3 x4 hb8 hbz h0
          go_enter Try.func13, Try.ntmps13
          go_wp2
          go_ret
          exact ⟨rfl, HB.out⟩
/-- A kind that is one. -/
def Kd (x : Sh.Op) : Prop := x.k = 1 ∨ x.k = 2 ∨ x.k = 3
theorem kd_ok {n : Int} {x : Sh.Op} (h : Sh.opErr n x = 0) : Kd x := by
  obtain ⟨⟨_, h⟩, _⟩ := Sh.err_zero.1 h
  rcases h with ⟨h, _⟩ | ⟨h, _⟩ | ⟨h, _⟩
  · exact .inl h
  · exact .inr (.inl h)
  · exact .inr (.inr h)
theorem kd_past {x y : Sh.Op} {f : Bool} (h : Kd x) : Kd (Sh.past x y f) := by
  unfold Sh.past
  repeat' split
  all_goals first | exact h | exact .inr (.inr rfl)
set_option maxRecDepth 100000 in
set_option maxHeartbeats 4000000 in
theorem spast_any (x y : Sh.Op) (f : Bool) (w : World) (hx : -1000000 ≤ x.a ∧ x.a ≤ 1000000) (ky : Kd y) :
    Calls Try.prog 39 #[.agg #[.int .i64 x.k, .int .i64 x.a, .int .u8 (x.b.toNat : Int)], .agg #[.int .i64 y.k, .int .i64 y.a, .int .u8 (y.b.toNat : Int)], .bool f] w fun e w' => e = .returned (opV (Sh.past x y f)) ∧ Below w.heap.size w w' := by
  have hw1 : IntKind.i64.wrap (x.a + 1) = x.a + 1 := IntWalk.i64_in _ (by omega)
  have hw2 : IntKind.i64.wrap (x.a - 1) = x.a - 1 := IntWalk.i64_in _ (by omega)
  unfold Kd at ky
  clear hx
  by_cases h1 : x.k = 3
  · have h1' := beq_iff_eq.2 h1
    have hv : Sh.past x y f = x := by unfold Sh.past; rw [if_pos (.inl h1)]
    rw [hv]
    clear hv ky
    go_enter Try.func39, Try.ntmps39
    go_wp2
    refine bodyPost_ret (results_cell_row rfl _ _ (w.heap.size + 1 + 1) 23 _ (0, 0) _ rfl (res_3rd _ _ _ _) Try.underlying23 rfl (by kernel_rfl)) rfl ?_
    exact ⟨by first | rfl | simp [opV, *], bl_then (bl_then (bl_new w _) (bl_new _ _)) (bl_new _ _)⟩
  · have h1' := beq_eq_false_iff_ne.2 h1
    by_cases h2 : y.k = 3
    · have h2' := beq_iff_eq.2 h2
      have hv : Sh.past x y f = x := by unfold Sh.past; rw [if_pos (.inr h2)]
      rw [hv]
      clear hv ky
      go_enter Try.func39, Try.ntmps39
      go_wp2
      refine bodyPost_ret (results_cell_row rfl _ _ (w.heap.size + 1 + 1) 23 _ (0, 0) _ rfl (res_3rd _ _ _ _) Try.underlying23 rfl (by kernel_rfl)) rfl ?_
      exact ⟨by first | rfl | simp [opV, *], bl_then (bl_then (bl_new w _) (bl_new _ _)) (bl_new _ _)⟩
    · have h2' := beq_eq_false_iff_ne.2 h2
      by_cases h3 : x.a < y.a
      · have h3' := decide_eq_true h3
        have hv : Sh.past x y f = x := by unfold Sh.past; rw [if_neg (by omega), if_neg (by omega)]; split <;> rw [if_neg (by first | omega | (rintro (h | ⟨h, _⟩ | ⟨h, _⟩) <;> omega))]
        rw [hv]
        clear hv ky
        go_enter Try.func39, Try.ntmps39
        go_wp2
        refine bodyPost_ret (results_cell_row rfl _ _ (w.heap.size + 1 + 1) 23 _ (0, 0) _ rfl (res_3rd _ _ _ _) Try.underlying23 rfl (by kernel_rfl)) rfl ?_
        exact ⟨by first | rfl | simp [opV, *], bl_then (bl_then (bl_new w _) (bl_new _ _)) (bl_new _ _)⟩
      · have h3' := decide_eq_false h3
        by_cases h4 : y.k = 1
        · have h4' := beq_iff_eq.2 h4
          by_cases h5 : y.a < x.a
          · have h5' := decide_eq_true h5
            have hv : Sh.past x y f = ⟨x.k, x.a + 1, x.b⟩ := by unfold Sh.past; rw [if_neg (by omega), if_neg (by omega), if_pos h4, if_pos (.inl h5)]
            rw [hv]
            clear hv ky
            go_enter Try.func39, Try.ntmps39
            go_wp2
            refine bodyPost_ret (results_cell_row rfl _ _ (w.heap.size + 1 + 1) 23 _ (0, 0) _ rfl (res_3rd _ _ _ _) Try.underlying23 rfl (by kernel_rfl)) rfl ?_
            exact ⟨by first | rfl | simp [opV, *], bl_then (bl_then (bl_new w _) (bl_new _ _)) (bl_new _ _)⟩
          · have h5' := decide_eq_false h5
            by_cases h6 : x.k = 2
            · have h6' := beq_iff_eq.2 h6
              have hv : Sh.past x y f = ⟨x.k, x.a + 1, x.b⟩ := by unfold Sh.past; rw [if_neg (by omega), if_neg (by omega), if_pos h4, if_pos (.inr (.inl ⟨by omega, h6⟩))]
              rw [hv]
              clear hv ky
              go_enter Try.func39, Try.ntmps39
              go_wp2
              refine bodyPost_ret (results_cell_row rfl _ _ (w.heap.size + 1 + 1) 23 _ (0, 0) _ rfl (res_3rd _ _ _ _) Try.underlying23 rfl (by kernel_rfl)) rfl ?_
              exact ⟨by first | rfl | simp [opV, *], bl_then (bl_then (bl_new w _) (bl_new _ _)) (bl_new _ _)⟩
            · have h6' := beq_eq_false_iff_ne.2 h6
              cases f with
              | true =>
                have hv : Sh.past x y true = x := by unfold Sh.past; rw [if_neg (by omega), if_neg (by omega), if_pos h4, if_neg (by rintro (h | ⟨_, h⟩ | ⟨_, h⟩); exact h5 h; exact h6 h; cases h)]
                rw [hv]
                clear hv ky
                go_enter Try.func39, Try.ntmps39
                go_wp2
                refine bodyPost_ret (results_cell_row rfl _ _ (w.heap.size + 1 + 1) 23 _ (0, 0) _ rfl (res_3rd _ _ _ _) Try.underlying23 rfl (by kernel_rfl)) rfl ?_
                exact ⟨by first | rfl | simp [opV, *], bl_then (bl_then (bl_new w _) (bl_new _ _)) (bl_new _ _)⟩
              | false =>
                have hv : Sh.past x y false = ⟨x.k, x.a + 1, x.b⟩ := by unfold Sh.past; rw [if_neg (by omega), if_neg (by omega), if_pos h4, if_pos (.inr (.inr ⟨by omega, rfl⟩))]
                rw [hv]
                clear hv ky
                go_enter Try.func39, Try.ntmps39
                go_wp2
                refine bodyPost_ret (results_cell_row rfl _ _ (w.heap.size + 1 + 1) 23 _ (0, 0) _ rfl (res_3rd _ _ _ _) Try.underlying23 rfl (by kernel_rfl)) rfl ?_
                exact ⟨by first | rfl | simp [opV, *], bl_then (bl_then (bl_new w _) (bl_new _ _)) (bl_new _ _)⟩
        · have h4' := beq_eq_false_iff_ne.2 h4
          by_cases h5 : y.a < x.a
          · have h5' := decide_eq_true h5
            have hv : Sh.past x y f = ⟨x.k, x.a - 1, x.b⟩ := by unfold Sh.past; rw [if_neg (by omega), if_neg (by omega), if_neg h4, if_pos h5]
            rw [hv]
            clear hv ky
            go_enter Try.func39, Try.ntmps39
            go_wp2
            refine bodyPost_ret (results_cell_row rfl _ _ (w.heap.size + 1 + 1) 23 _ (0, 0) _ rfl (res_3rd _ _ _ _) Try.underlying23 rfl (by kernel_rfl)) rfl ?_
            exact ⟨by first | rfl | simp [opV, *], bl_then (bl_then (bl_new w _) (bl_new _ _)) (bl_new _ _)⟩
          · have h5' := decide_eq_false h5
            by_cases h6 : x.k = 2
            · have h6' := beq_iff_eq.2 h6
              have hv : Sh.past x y f = Sh.none_ := by unfold Sh.past; rw [if_neg (by omega), if_pos ⟨h6, by omega, by omega⟩]
              rw [hv]
              clear hv ky
              go_enter Try.func39, Try.ntmps39
              go_wp2
              refine bodyPost_ret (results_cell_row rfl _ _ (w.heap.size + 1 + 1) 23 _ (0, 0) _ rfl (res_3rd _ _ _ _) Try.underlying23 rfl (by kernel_rfl)) rfl ?_
              exact ⟨by first | rfl | simp [opV, *], bl_then (bl_then (bl_new w _) (bl_new _ _)) (bl_new _ _)⟩
            · have h6' := beq_eq_false_iff_ne.2 h6
              have hv : Sh.past x y f = x := by unfold Sh.past; rw [if_neg (by omega), if_neg (by omega), if_neg h4, if_neg h5]
              rw [hv]
              clear hv ky
              go_enter Try.func39, Try.ntmps39
              go_wp2
              refine bodyPost_ret (results_cell_row rfl _ _ (w.heap.size + 1 + 1) 23 _ (0, 0) _ rfl (res_3rd _ _ _ _) Try.underlying23 rfl (by kernel_rfl)) rfl ?_
              exact ⟨by first | rfl | simp [opV, *], bl_then (bl_then (bl_new w _) (bl_new _ _)) (bl_new _ _)⟩
end Go.Proofs.Ytgkagigagcamoaa
