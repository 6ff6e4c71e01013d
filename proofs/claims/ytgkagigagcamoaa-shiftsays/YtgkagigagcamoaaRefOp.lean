
/-
The contracts of quillref.OpErr, Longer and PastOf.
-/
import Derived.Test.YtgkagigagcamoaaOpEqual
import Derived.Test.YtgkagigagcamoaaIMap
namespace Go.Proofs.Ytgkagigagcamoaa
open Go.RowKit

theorem byte_u8 (b : UInt8) : 0 ≤ (b.toNat : Int) ∧ (b.toNat : Int) ≤ 255 := by have := b.toNat_lt; omega
theorem b_zero {b : UInt8} : b = 0 ↔ (b.toNat : Int) = 0 := by
  constructor
  · rintro rfl; rfl
  · intro h; exact UInt8.toNat_inj.1 (by simpa using h)
set_option maxRecDepth 100000 in
theorem Longer_any (x : Sh.Op) (w : World) (hx : OpWf x) :
    Calls Try.prog 41 #[.agg #[.int .i64 x.k, .int .i64 x.a, .int .u8 (x.b.toNat : Int)]] w fun e w' => e = .returned (.int .i64 (Sh.lon x)) ∧ Below w.heap.size w w' := by
  obtain ⟨c0, c1, c2⟩ := op_new w x 23
  have HB := hid (bl_new w (.cells #[.int .i64 x.k, .int .i64 x.a, .int .u8 (x.b.toNat : Int)] 23))
  have hs0 : (w.alloc (.cells #[.int .i64 x.k, .int .i64 x.a, .int .u8 (x.b.toNat : Int)] 23)).heap.size = w.heap.size + 1 := by simp
  have hm0 := IMp.new (w.alloc (.cells #[.int .i64 x.k, .int .i64 x.a, .int .u8 (x.b.toNat : Int)] 23))
  obtain ⟨w1, r1, hm1, g1⟩ := hm0.put (by omega) (j := 1) (v := 1) (by unfold N64; omega) (by unfold N64; omega)
  obtain ⟨w2, r2, hm2, g2⟩ := hm1.put (by omega) (j := 2) (v := -1) (by unfold N64; omega) (by unfold N64; omega)
  have hlk := hm2.look (j := x.k) ⟨hx.a1, hx.a2⟩
  have hv : ((fun i : Int => if i = 2 then some (-1 : Int) else if i = 1 then some 1 else none) x.k).getD 0 = Sh.lon x := by
    unfold Sh.lon
    by_cases h1 : x.k = 1
    · simp [h1]
    · by_cases h2 : x.k = 2
      · simp [h2]
      · simp [h1, h2]
  rw [hv] at hlk
  have HB1 : Hid (Below w.heap.size w w2) := by
    have a0 : Below w.heap.size w ((w.alloc (.cells #[.int .i64 x.k, .int .i64 x.a, .int .u8 (x.b.toNat : Int)] 23)).alloc (.map #[] 0)) := bl_then HB.out (bl_new (w.alloc (.cells #[.int .i64 x.k, .int .i64 x.a, .int .u8 (x.b.toNat : Int)] 23)) _)
    have a1 := a0.grown g1 a0.size (fun q hq => by cases hq; exact HB.out.size)
    exact a1.grown g2 a1.size (fun q hq => by cases hq; exact HB.out.size)
  have hc0 : w2.cell? ⟨w.heap.size, 0, none⟩ = some (.int .i64 x.k) := by
    have b0 := (bl_new (w.alloc (.cells #[.int .i64 x.k, .int .i64 x.a, .int .u8 (x.b.toNat : Int)] 23)) (.map #[] 0)).cell (p := ⟨w.heap.size, 0, none⟩) (by show w.heap.size < _; rw [hs0]; omega)
    exact g2.cell (g1.cell (b0.trans c0) (fun e => by injection e with e; have e2 : w.heap.size = (w.alloc (.cells #[.int .i64 x.k, .int .i64 x.a, .int .u8 (x.b.toNat : Int)] 23)).heap.size := e; omega)) (fun e => by injection e with e; have e2 : w.heap.size = (w.alloc (.cells #[.int .i64 x.k, .int .i64 x.a, .int .u8 (x.b.toNat : Int)] 23)).heap.size := e; omega)
  have hmm := @run_makeMap Try.prog
  rw [hs0] at r1 r2 hlk
  clear hm0 hm1 hm2 g1 g2 hv c0 c1 c2 hx hs0
  go_enter Try.func41, Try.ntmps41
  go_wp2
  go_ret
  exact ⟨rfl, HB1.out⟩
def mostF (n : Int) (i : Int) : Option Int := if i = 3 then some 0 else if i = 2 then some (n - 1) else if i = 1 then some n else none
set_option maxRecDepth 100000 in
set_option maxHeartbeats 2000000 in
theorem OpErr_any (n : Int) (x : Sh.Op) (w : World) (hn : N64 n) (hx : OpWf x) :
    Calls Try.prog 14 #[.int .i64 n, .agg #[.int .i64 x.k, .int .i64 x.a, .int .u8 (x.b.toNat : Int)]] w fun e w' => e = .returned (.int .i64 (Sh.opErr n x)) ∧ Below w.heap.size w w' := by
  obtain ⟨k, a, b⟩ := x
  obtain ⟨c0, c1, c2⟩ := op_new w ⟨k, a, b⟩ 23
  obtain ⟨x1, x2, x3, x4⟩ := hx
  simp only at c0 c1 c2 x1 x2 x3 x4
  have HB := hid (bl_new w (.cells #[.int .i64 k, .int .i64 a, .int .u8 (b.toNat : Int)] 23))
  unfold Sh.opErr
  simp only
  by_cases h0 : n < 0 ∨ 200 < n
  · rw [if_pos h0]
    by_cases h1 : n < 0
    · have h1' : decide (n < 0) = true := decide_eq_true h1
      clear h0 h1 hn
      go_enter Try.func14, Try.ntmps14
      go_wp2
      go_ret
      exact ⟨rfl, HB.out⟩
    · have h1' : decide (n < 0) = false := decide_eq_false h1
      have h2' : decide (200 < n) = true := decide_eq_true (by omega)
      clear h0 h1 hn
      go_enter Try.func14, Try.ntmps14
      go_wp2
      go_ret
      exact ⟨rfl, HB.out⟩
  · rw [if_neg h0]
    have h1' : decide (n < 0) = false := decide_eq_false (by omega)
    have h2' : decide (200 < n) = false := decide_eq_false (by omega)
    have hs0 : (w.alloc (.cells #[.int .i64 k, .int .i64 a, .int .u8 (b.toNat : Int)] 23)).heap.size = w.heap.size + 1 := by simp
    have hm0 := IMp.new (w.alloc (.cells #[.int .i64 k, .int .i64 a, .int .u8 (b.toNat : Int)] 23))
    obtain ⟨w1, r1, hm1, g1⟩ := hm0.put (by omega) (j := 1) (v := n) (by unfold N64; omega) hn
    obtain ⟨w2, r2, hm2, g2⟩ := hm1.put (by omega) (j := 2) (v := n - 1) (by unfold N64; omega) (by unfold N64; omega)
    obtain ⟨w3, r3, hm3, g3⟩ := hm2.put (by omega) (j := 3) (v := 0) (by unfold N64; omega) (by unfold N64; omega)
    have hlk := hm3.ask (j := k) ⟨x1, x2⟩
    have HB1 : Hid (Below w.heap.size w w3) := by
      have a0 : Below w.heap.size w ((w.alloc (.cells #[.int .i64 k, .int .i64 a, .int .u8 (b.toNat : Int)] 23)).alloc (.map #[] 0)) := bl_then HB.out (bl_new (w.alloc (.cells #[.int .i64 k, .int .i64 a, .int .u8 (b.toNat : Int)] 23)) _)
      have a1 := a0.grown g1 a0.size (fun q hq => by cases hq; exact HB.out.size)
      have a2 := a1.grown g2 a1.size (fun q hq => by cases hq; exact HB.out.size)
      exact a2.grown g3 a2.size (fun q hq => by cases hq; exact HB.out.size)
    have hcs : ∀ (j : Nat) (v : Value), (w.alloc (.cells #[.int .i64 k, .int .i64 a, .int .u8 (b.toNat : Int)] 23)).cell? ⟨w.heap.size, j, none⟩ = some v → w3.cell? ⟨w.heap.size, j, none⟩ = some v := fun j v hv => by
      have b0 := (bl_new (w.alloc (.cells #[.int .i64 k, .int .i64 a, .int .u8 (b.toNat : Int)] 23)) (.map #[] 0)).cell (p := ⟨w.heap.size, j, none⟩) (by show w.heap.size < _; rw [hs0]; omega)
      have hne : some (⟨w.heap.size, j, none⟩ : Addr).block ≠ some (w.alloc (.cells #[.int .i64 k, .int .i64 a, .int .u8 (b.toNat : Int)] 23)).heap.size := fun e => by injection e with e; have e2 : w.heap.size = (w.alloc (.cells #[.int .i64 k, .int .i64 a, .int .u8 (b.toNat : Int)] 23)).heap.size := e; omega
      exact g3.cell (g2.cell (g1.cell (b0.trans hv) hne) hne) hne
    have d0 := hcs 0 _ c0
    have d1 := hcs 1 _ c1
    have d2 := hcs 2 _ c2
    have hmm := @run_makeMap Try.prog
    rw [hs0] at r1 r2 r3 hlk
    have hw : IntKind.i64.wrap (n - 1) = n - 1 := IntWalk.i64_in _ (by omega)
    have hb := byte_u8 b
    have hbz := b_zero (b := b)
    clear hm0 hm1 hm2 hm3 g1 g2 g3 c0 c1 c2 hs0 hcs hn x1 x2 x3 x4 HB
    have finish : True := trivial
    by_cases k1 : k = 1
    · subst k1
      rw [if_pos rfl]
      have hlk2 : (Instr.lookup 66 (.map (some (w.heap.size + 1))) (.int .i64 1) true).run Try.prog w3 = .ok (.tuple #[.int .i64 n, .bool true]) w3 := by rw [hlk]; rfl
      clear hlk hb hbz
      by_cases q1 : a < 0
      · rw [if_pos (.inl q1)]
        have q1' := decide_eq_true q1
        clear q1 h0
        go_enter Try.func14, Try.ntmps14
        go_wp2
        go_ret
        exact ⟨rfl, HB1.out⟩
      · have q1' := decide_eq_false q1
        by_cases q2 : n < a
        · rw [if_pos (.inr q2)]
          have q2' := decide_eq_true q2
          clear q1 q2 h0
          go_enter Try.func14, Try.ntmps14
          go_wp2
          go_ret
          exact ⟨rfl, HB1.out⟩
        · have q2' := decide_eq_false q2
          rw [if_neg (by omega)]
          by_cases q3 : n = 200
          · rw [if_pos q3]
            have q3' : (n == 200) = true := by rw [q3]; rfl
            clear q1 q2 h0 q3
            go_enter Try.func14, Try.ntmps14
            go_wp2
            go_ret
            exact ⟨rfl, HB1.out⟩
          · rw [if_neg q3]
            have q3' : (n == 200) = false := beq_eq_false_iff_ne.2 q3
            clear q1 q2 h0 q3
            go_enter Try.func14, Try.ntmps14
            go_wp2
            go_ret
            exact ⟨rfl, HB1.out⟩
    · rw [if_neg k1]
      by_cases k2 : k = 2
      · subst k2
        rw [if_pos rfl]
        have hlk2 : (Instr.lookup 66 (.map (some (w.heap.size + 1))) (.int .i64 2) true).run Try.prog w3 = .ok (.tuple #[.int .i64 (n - 1), .bool true]) w3 := by rw [hlk]; rfl
        clear hlk
        by_cases q1 : a < 0
        · rw [if_pos (.inl q1)]
          have q1' := decide_eq_true q1
          clear q1 h0 k1 hb hbz
          go_enter Try.func14, Try.ntmps14
          go_wp2
          go_ret
          exact ⟨rfl, HB1.out⟩
        · have q1' := decide_eq_false q1
          by_cases q2 : n - 1 < a
          · rw [if_pos (.inr q2)]
            have q2' := decide_eq_true q2
            clear q1 q2 h0 k1 hb hbz
            go_enter Try.func14, Try.ntmps14
            go_wp2
            go_ret
            exact ⟨rfl, HB1.out⟩
          · have q2' := decide_eq_false q2
            rw [if_neg (by omega)]
            by_cases q3 : b = 0
            · rw [if_pos q3]
              have q3' : decide ((0 : Int) < (b.toNat : Int)) = false := decide_eq_false (by have := hbz.1 q3; omega)
              have q3n : decide (0 < b.toNat) = false := decide_eq_false (by have := hbz.1 q3; omega)
              clear q1 q2 h0 k1 hb hbz q3
              go_enter Try.func14, Try.ntmps14
              go_wp2
              go_ret
              exact ⟨rfl, HB1.out⟩
            · rw [if_neg q3]
              have q3' : decide ((0 : Int) < (b.toNat : Int)) = true := decide_eq_true (by have h9 : ¬ ((b.toNat : Int) = 0) := fun e => q3 (hbz.2 e); omega)
              have q3n : decide (0 < b.toNat) = true := decide_eq_true (by have h9 : ¬ ((b.toNat : Int) = 0) := fun e => q3 (hbz.2 e); omega)
              clear q1 q2 h0 k1 hb hbz q3
              go_enter Try.func14, Try.ntmps14
              go_wp2
              go_ret
              exact ⟨rfl, HB1.out⟩
      · rw [if_neg k2]
        by_cases k3 : k = 3
        · subst k3
          rw [if_pos rfl]
          have hlk2 : (Instr.lookup 66 (.map (some (w.heap.size + 1))) (.int .i64 3) true).run Try.prog w3 = .ok (.tuple #[.int .i64 0, .bool true]) w3 := by rw [hlk]; rfl
          clear hlk
          by_cases q1 : a < 0
          · rw [if_pos (.inl q1)]
            have q1' := decide_eq_true q1
            clear q1 h0 k1 k2 hb hbz
            go_enter Try.func14, Try.ntmps14
            go_wp2
            go_ret
            exact ⟨rfl, HB1.out⟩
          · have q1' := decide_eq_false q1
            by_cases q2 : (0 : Int) < a
            · rw [if_pos (.inr q2)]
              have q2' := decide_eq_true q2
              clear q1 q2 h0 k1 k2 hb hbz
              go_enter Try.func14, Try.ntmps14
              go_wp2
              go_ret
              exact ⟨rfl, HB1.out⟩
            · have q2' := decide_eq_false q2
              rw [if_neg (by omega)]
              by_cases q3 : b = 0
              · rw [if_pos q3]
                have q3' : decide ((0 : Int) < (b.toNat : Int)) = false := decide_eq_false (by have := hbz.1 q3; omega)
                have q3n : decide (0 < b.toNat) = false := decide_eq_false (by have := hbz.1 q3; omega)
                clear q1 q2 h0 k1 k2 hb hbz q3
                go_enter Try.func14, Try.ntmps14
                go_wp2
                go_ret
                exact ⟨rfl, HB1.out⟩
              · rw [if_neg q3]
                have q3' : decide ((0 : Int) < (b.toNat : Int)) = true := decide_eq_true (by have h9 : ¬ ((b.toNat : Int) = 0) := fun e => q3 (hbz.2 e); omega)
                have q3n : decide (0 < b.toNat) = true := decide_eq_true (by have h9 : ¬ ((b.toNat : Int) = 0) := fun e => q3 (hbz.2 e); omega)
                clear q1 q2 h0 k1 k2 hb hbz q3
                go_enter Try.func14, Try.ntmps14
                go_wp2
                go_ret
                exact ⟨rfl, HB1.out⟩
        · rw [if_neg k3]
          have hlk2 : (Instr.lookup 66 (.map (some (w.heap.size + 1))) (.int .i64 k) true).run Try.prog w3 = .ok (.tuple #[.int .i64 0, .bool false]) w3 := by
            rw [hlk]
            simp only [if_neg k1, if_neg k2, if_neg k3]
            rfl
          clear hlk hb hbz h0 k1 k2 k3
          go_enter Try.func14, Try.ntmps14
          go_wp2
          go_ret
          exact ⟨rfl, HB1.out⟩
theorem res_third (w : World) (A B C : Obj) : (((w.alloc A).alloc B).alloc C).heap[w.heap.size + 1 + 1]? = some C := by
  have h := heap_alloc_new ((w.alloc A).alloc B) C
  rw [show ((w.alloc A).alloc B).heap.size = w.heap.size + 1 + 1 by simp] at h
  exact h
set_option maxRecDepth 100000 in
set_option maxHeartbeats 4000000 in
theorem PastOf_any (x y : Sh.Op) (f : Bool) (w : World) (hx : -1000000 ≤ x.a ∧ x.a ≤ 1000000) :
    Calls Try.prog 15 #[.agg #[.int .i64 x.k, .int .i64 x.a, .int .u8 (x.b.toNat : Int)], .agg #[.int .i64 y.k, .int .i64 y.a, .int .u8 (y.b.toNat : Int)], .bool f] w fun e w' => e = .returned (opV (Sh.past x y f)) ∧ Below w.heap.size w w' := by
  have hw1 : IntKind.i64.wrap (x.a + 1) = x.a + 1 := IntWalk.i64_in _ (by omega)
  have hw2 : IntKind.i64.wrap (x.a - 1) = x.a - 1 := IntWalk.i64_in _ (by omega)
  clear hx
  by_cases h1 : x.k = 3
  · have h1' := beq_iff_eq.2 h1
    have hv : Sh.past x y f = x := by unfold Sh.past; repeat' split; all_goals first | rfl | (exfalso; omega) | (exfalso; simp_all; done) | (simp_all; done) | (simp_all; intro _; exfalso; omega)
    rw [hv]
    clear hv
    go_enter Try.func15, Try.ntmps15
    go_wp2
    refine bodyPost_ret (results_cell_row rfl _ _ (w.heap.size + 1 + 1) 23 _ (0, 0) _ rfl (res_third _ _ _ _) Try.underlying23 rfl (by kernel_rfl)) rfl ?_
    exact ⟨by first | rfl | simp [opV, *], bl_then (bl_then (bl_new w _) (bl_new _ _)) (bl_new _ _)⟩
  · have h1' := beq_eq_false_iff_ne.2 h1
    by_cases h2 : y.k = 3
    · have h2' := beq_iff_eq.2 h2
      have hv : Sh.past x y f = x := by unfold Sh.past; repeat' split; all_goals first | rfl | (exfalso; omega) | (exfalso; simp_all; done) | (simp_all; done) | (simp_all; intro _; exfalso; omega)
      rw [hv]
      clear hv
      go_enter Try.func15, Try.ntmps15
      go_wp2
      refine bodyPost_ret (results_cell_row rfl _ _ (w.heap.size + 1 + 1) 23 _ (0, 0) _ rfl (res_third _ _ _ _) Try.underlying23 rfl (by kernel_rfl)) rfl ?_
      exact ⟨by first | rfl | simp [opV, *], bl_then (bl_then (bl_new w _) (bl_new _ _)) (bl_new _ _)⟩
    · have h2' := beq_eq_false_iff_ne.2 h2
      by_cases xk2 : x.k = 2
      · have xk2' := beq_iff_eq.2 xk2
        by_cases yk2 : y.k = 2
        · have yk2' := beq_iff_eq.2 yk2
          by_cases h3 : x.a = y.a
          · have h3' := beq_iff_eq.2 h3
            have hv : Sh.past x y f = Sh.none_ := by unfold Sh.past; repeat' split; all_goals first | rfl | (exfalso; omega) | (exfalso; simp_all; done) | (simp_all; done) | (simp_all; intro _; exfalso; omega)
            rw [hv]
            clear hv
            go_enter Try.func15, Try.ntmps15
            go_wp2
            refine bodyPost_ret (results_cell_row rfl _ _ (w.heap.size + 1 + 1) 23 _ (0, 0) _ rfl (res_third _ _ _ _) Try.underlying23 rfl (by kernel_rfl)) rfl ?_
            exact ⟨by first | rfl | simp [opV, *], bl_then (bl_then (bl_new w _) (bl_new _ _)) (bl_new _ _)⟩
          · have h3' := beq_eq_false_iff_ne.2 h3
            have p1' : (y.k == 1) = false := beq_eq_false_iff_ne.2 (by omega)
            by_cases p2 : y.a < x.a
            · have p2' := decide_eq_true p2
              have hv : Sh.past x y f = ⟨x.k, x.a - 1, x.b⟩ := by unfold Sh.past; repeat' split; all_goals first | rfl | (exfalso; omega) | (exfalso; simp_all; done) | (simp_all; done) | (simp_all; intro _; exfalso; omega)
              rw [hv]
              clear hv
              go_enter Try.func15, Try.ntmps15
              go_wp2
              refine bodyPost_ret (results_cell_row rfl _ _ (w.heap.size + 1 + 1) 23 _ (0, 0) _ rfl (res_third _ _ _ _) Try.underlying23 rfl (by kernel_rfl)) rfl ?_
              exact ⟨by first | rfl | simp [opV, *], bl_then (bl_then (bl_new w _) (bl_new _ _)) (bl_new _ _)⟩
            · have p2' := decide_eq_false p2
              have hv : Sh.past x y f = x := by unfold Sh.past; repeat' split; all_goals first | rfl | (exfalso; omega) | (exfalso; simp_all; done) | (simp_all; done) | (simp_all; intro _; exfalso; omega)
              rw [hv]
              clear hv
              go_enter Try.func15, Try.ntmps15
              go_wp2
              refine bodyPost_ret (results_cell_row rfl _ _ (w.heap.size + 1 + 1) 23 _ (0, 0) _ rfl (res_third _ _ _ _) Try.underlying23 rfl (by kernel_rfl)) rfl ?_
              exact ⟨by first | rfl | simp [opV, *], bl_then (bl_then (bl_new w _) (bl_new _ _)) (bl_new _ _)⟩
        · have yk2' := beq_eq_false_iff_ne.2 yk2
          by_cases p1 : y.k = 1
          · have p1' := beq_iff_eq.2 p1
            by_cases p2 : y.a < x.a
            · have p2' := decide_eq_true p2
              have hv : Sh.past x y f = ⟨x.k, x.a + 1, x.b⟩ := by unfold Sh.past; repeat' split; all_goals first | rfl | (exfalso; omega) | (exfalso; simp_all; done) | (simp_all; done) | (simp_all; intro _; exfalso; omega)
              rw [hv]
              clear hv
              go_enter Try.func15, Try.ntmps15
              go_wp2
              refine bodyPost_ret (results_cell_row rfl _ _ (w.heap.size + 1 + 1) 23 _ (0, 0) _ rfl (res_third _ _ _ _) Try.underlying23 rfl (by kernel_rfl)) rfl ?_
              exact ⟨by first | rfl | simp [opV, *], bl_then (bl_then (bl_new w _) (bl_new _ _)) (bl_new _ _)⟩
            · have p2' := decide_eq_false p2
              by_cases p3 : y.a = x.a
              · have p3' := beq_iff_eq.2 p3
                have hv : Sh.past x y f = ⟨x.k, x.a + 1, x.b⟩ := by unfold Sh.past; repeat' split; all_goals first | rfl | (exfalso; omega) | (exfalso; simp_all; done) | (simp_all; done) | (simp_all; intro _; exfalso; omega)
                rw [hv]
                clear hv
                go_enter Try.func15, Try.ntmps15
                go_wp2
                refine bodyPost_ret (results_cell_row rfl _ _ (w.heap.size + 1 + 1) 23 _ (0, 0) _ rfl (res_third _ _ _ _) Try.underlying23 rfl (by kernel_rfl)) rfl ?_
                exact ⟨by first | rfl | simp [opV, *], bl_then (bl_then (bl_new w _) (bl_new _ _)) (bl_new _ _)⟩
              · have p3' := beq_eq_false_iff_ne.2 p3
                have hv : Sh.past x y f = x := by unfold Sh.past; repeat' split; all_goals first | rfl | (exfalso; omega) | (exfalso; simp_all; done) | (simp_all; done) | (simp_all; intro _; exfalso; omega)
                rw [hv]
                clear hv
                go_enter Try.func15, Try.ntmps15
                go_wp2
                refine bodyPost_ret (results_cell_row rfl _ _ (w.heap.size + 1 + 1) 23 _ (0, 0) _ rfl (res_third _ _ _ _) Try.underlying23 rfl (by kernel_rfl)) rfl ?_
                exact ⟨by first | rfl | simp [opV, *], bl_then (bl_then (bl_new w _) (bl_new _ _)) (bl_new _ _)⟩
          · have p1' := beq_eq_false_iff_ne.2 p1
            by_cases p2 : y.a < x.a
            · have p2' := decide_eq_true p2
              have hv : Sh.past x y f = ⟨x.k, x.a - 1, x.b⟩ := by unfold Sh.past; repeat' split; all_goals first | rfl | (exfalso; omega) | (exfalso; simp_all; done) | (simp_all; done) | (simp_all; intro _; exfalso; omega)
              rw [hv]
              clear hv
              go_enter Try.func15, Try.ntmps15
              go_wp2
              refine bodyPost_ret (results_cell_row rfl _ _ (w.heap.size + 1 + 1) 23 _ (0, 0) _ rfl (res_third _ _ _ _) Try.underlying23 rfl (by kernel_rfl)) rfl ?_
              exact ⟨by first | rfl | simp [opV, *], bl_then (bl_then (bl_new w _) (bl_new _ _)) (bl_new _ _)⟩
            · have p2' := decide_eq_false p2
              have hv : Sh.past x y f = x := by unfold Sh.past; repeat' split; all_goals first | rfl | (exfalso; omega) | (exfalso; simp_all; done) | (simp_all; done) | (simp_all; intro _; exfalso; omega)
              rw [hv]
              clear hv
              go_enter Try.func15, Try.ntmps15
              go_wp2
              refine bodyPost_ret (results_cell_row rfl _ _ (w.heap.size + 1 + 1) 23 _ (0, 0) _ rfl (res_third _ _ _ _) Try.underlying23 rfl (by kernel_rfl)) rfl ?_
              exact ⟨by first | rfl | simp [opV, *], bl_then (bl_then (bl_new w _) (bl_new _ _)) (bl_new _ _)⟩
      · have xk2' := beq_eq_false_iff_ne.2 xk2
        by_cases p1 : y.k = 1
        · have p1' := beq_iff_eq.2 p1
          by_cases p2 : y.a < x.a
          · have p2' := decide_eq_true p2
            have hv : Sh.past x y f = ⟨x.k, x.a + 1, x.b⟩ := by unfold Sh.past; repeat' split; all_goals first | rfl | (exfalso; omega) | (exfalso; simp_all; done) | (simp_all; done) | (simp_all; intro _; exfalso; omega)
            rw [hv]
            clear hv
            go_enter Try.func15, Try.ntmps15
            go_wp2
            refine bodyPost_ret (results_cell_row rfl _ _ (w.heap.size + 1 + 1) 23 _ (0, 0) _ rfl (res_third _ _ _ _) Try.underlying23 rfl (by kernel_rfl)) rfl ?_
            exact ⟨by first | rfl | simp [opV, *], bl_then (bl_then (bl_new w _) (bl_new _ _)) (bl_new _ _)⟩
          · have p2' := decide_eq_false p2
            by_cases p3 : y.a = x.a
            · have p3' := beq_iff_eq.2 p3
              cases f with
              | false =>
                have hv : Sh.past x y false = ⟨x.k, x.a + 1, x.b⟩ := by unfold Sh.past; repeat' split; all_goals first | rfl | (exfalso; omega) | (exfalso; simp_all; done) | (simp_all; done) | (simp_all; intro _; exfalso; omega)
                rw [hv]
                clear hv
                go_enter Try.func15, Try.ntmps15
                go_wp2
                refine bodyPost_ret (results_cell_row rfl _ _ (w.heap.size + 1 + 1) 23 _ (0, 0) _ rfl (res_third _ _ _ _) Try.underlying23 rfl (by kernel_rfl)) rfl ?_
                exact ⟨by first | rfl | simp [opV, *], bl_then (bl_then (bl_new w _) (bl_new _ _)) (bl_new _ _)⟩
              | true =>
                have hv : Sh.past x y true = x := by unfold Sh.past; repeat' split; all_goals first | rfl | (exfalso; omega) | (exfalso; simp_all; done) | (simp_all; done) | (simp_all; intro _; exfalso; omega)
                rw [hv]
                clear hv
                go_enter Try.func15, Try.ntmps15
                go_wp2
                refine bodyPost_ret (results_cell_row rfl _ _ (w.heap.size + 1 + 1) 23 _ (0, 0) _ rfl (res_third _ _ _ _) Try.underlying23 rfl (by kernel_rfl)) rfl ?_
                exact ⟨by first | rfl | simp [opV, *], bl_then (bl_then (bl_new w _) (bl_new _ _)) (bl_new _ _)⟩
            · have p3' := beq_eq_false_iff_ne.2 p3
              have hv : Sh.past x y f = x := by unfold Sh.past; repeat' split; all_goals first | rfl | (exfalso; omega) | (exfalso; simp_all; done) | (simp_all; done) | (simp_all; intro _; exfalso; omega)
              rw [hv]
              clear hv
              go_enter Try.func15, Try.ntmps15
              go_wp2
              refine bodyPost_ret (results_cell_row rfl _ _ (w.heap.size + 1 + 1) 23 _ (0, 0) _ rfl (res_third _ _ _ _) Try.underlying23 rfl (by kernel_rfl)) rfl ?_
              exact ⟨by first | rfl | simp [opV, *], bl_then (bl_then (bl_new w _) (bl_new _ _)) (bl_new _ _)⟩
        · have p1' := beq_eq_false_iff_ne.2 p1
          by_cases p2 : y.a < x.a
          · have p2' := decide_eq_true p2
            have hv : Sh.past x y f = ⟨x.k, x.a - 1, x.b⟩ := by unfold Sh.past; repeat' split; all_goals first | rfl | (exfalso; omega) | (exfalso; simp_all; done) | (simp_all; done) | (simp_all; intro _; exfalso; omega)
            rw [hv]
            clear hv
            go_enter Try.func15, Try.ntmps15
            go_wp2
            refine bodyPost_ret (results_cell_row rfl _ _ (w.heap.size + 1 + 1) 23 _ (0, 0) _ rfl (res_third _ _ _ _) Try.underlying23 rfl (by kernel_rfl)) rfl ?_
            exact ⟨by first | rfl | simp [opV, *], bl_then (bl_then (bl_new w _) (bl_new _ _)) (bl_new _ _)⟩
          · have p2' := decide_eq_false p2
            have hv : Sh.past x y f = x := by unfold Sh.past; repeat' split; all_goals first | rfl | (exfalso; omega) | (exfalso; simp_all; done) | (simp_all; done) | (simp_all; intro _; exfalso; omega)
            rw [hv]
            clear hv
            go_enter Try.func15, Try.ntmps15
            go_wp2
            refine bodyPost_ret (results_cell_row rfl _ _ (w.heap.size + 1 + 1) 23 _ (0, 0) _ rfl (res_third _ _ _ _) Try.underlying23 rfl (by kernel_rfl)) rfl ?_
            exact ⟨by first | rfl | simp [opV, *], bl_then (bl_then (bl_new w _) (bl_new _ _)) (bl_new _ _)⟩
end Go.Proofs.Ytgkagigagcamoaa
