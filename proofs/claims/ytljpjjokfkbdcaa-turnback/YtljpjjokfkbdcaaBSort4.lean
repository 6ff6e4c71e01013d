/-
The contracts of the helpers of slices.Sort at []byte: the choice of a pivot.
-/
import Derived.Test.YtljpjjokfkbdcaaBSort2
namespace Go.Proofs.Ytljpjjokfkbdcaa
open Go.RowKit

/-- The row, and a counter of the call's own in block S. -/
structure SC (w0 : World) (b n : Nat) (h : Nat → Nat) (S : Nat) (w : World) : Prop where
  sb : SB w0 b n h w
  cell : ∃ k : Int, w.cell? ⟨S, 0, none⟩ = some (.int .i64 k)
  fz : w.frozen? ⟨S, 0, none⟩ = false
  ne : b ≠ S
  ge : w0.heap.size ≤ S
theorem SC.drewN {w0 w : World} {b n S : Nat} {h : Nat → Nat} (H : SC w0 b n h S w) (d : Nat) : SC w0 b n h S (w.drewN d) := ⟨H.sb.drewN d, H.cell, H.fz, H.ne, H.ge⟩
theorem SC.set_ {w0 w : World} {b n S : Nat} {h : Nat → Nat} (H : SC w0 b n h S w) (k : Int) : SC w0 b n h S (w.setCell ⟨S, 0, none⟩ (.int .i64 k)) := by
  have hb := Below.heap_setCell w ⟨S, 0, none⟩ (.int .i64 k)
  obtain ⟨u, hu⟩ := H.cell
  refine ⟨⟨fun j hj => ?_, fun j hj => ?_, ?_, by simpa using H.sb.lt⟩, ⟨k, World.cell?_setCell_same _ _ _ hu⟩, ?_, H.ne, H.ge⟩
  · rw [World.cell?_setCell_other _ _ _ _ (by intro h'; injection h' with h'' _; exact H.ne h''.symm)]
    exact H.sb.row j hj
  · have := H.sb.fz j hj
    simpa using this
  · have g := H.sb.gr
    refine ⟨g.os, g.tape, g.output, by simpa using g.size, fun x hx hne => (hb x (by have := H.ge; show x ≠ S; omega)).trans (g.block x hx hne)⟩
  · have := H.fz
    simpa using this
theorem order2_any (w0 : World) (b n c i j S : Nat) (h : Nat → Nat) (w : World) (H : SC w0 b n h S w) (hi : i < n) (hj : j < n) :
    Calls Try.prog 77 #[.slice (some ⟨b, 0, none⟩) n c, .int .i64 (i : Int), .int .i64 (j : Int), .pointer (some ⟨S, 0, none⟩)] w fun e w' => ∃ x y : Nat, e = .returned (.tuple #[.int .i64 (x : Int), .int .i64 (y : Int)]) ∧ ((x = i ∧ y = j) ∨ (x = j ∧ y = i)) ∧ SC w0 b n h S w' := by
  have hi' : (i : Int) < (n : Int) := by omega
  have hj' : (j : Int) < (n : Int) := by omega
  have ci := H.sb.row i hi
  have cj := H.sb.row j hj
  obtain ⟨k, hk⟩ := H.cell
  have fk := H.fz
  obtain ⟨X, hX⟩ : ∃ X, X = h i := ⟨_, rfl⟩
  obtain ⟨Y, hY⟩ : ∃ Y, Y = h j := ⟨_, rfl⟩
  rw [← hX] at ci
  rw [← hY] at cj
  have HCC := hid (fun W => less_any Y X W)
  have HS := hid (fun d v => (H.drewN d).set_ v)
  have HD := hid (fun d => H.drewN d)
  clear hX hY H
  by_cases hl : Y < X
  · rw [decide_eq_true hl] at HCC
    clear hl
    go_enter Try.func77, Try.ntmps77
    go_wp2
    go_quiet ((go_at_call 46; exact (HCC.out _).mono fun e w' h => ⟨h.1, quiet_d0 h.2⟩))
    go_wp2
    go_ret2
    exact ⟨j, i, rfl, .inr ⟨rfl, rfl⟩, HS.out _ _⟩
  · rw [decide_eq_false hl] at HCC
    clear hl
    go_enter Try.func77, Try.ntmps77
    go_wp2
    go_quiet ((go_at_call 46; exact (HCC.out _).mono fun e w' h => ⟨h.1, quiet_d0 h.2⟩))
    go_wp2
    go_ret2
    exact ⟨i, j, rfl, .inl ⟨rfl, rfl⟩, HD.out _⟩
theorem median_any (w0 : World) (b n c i j k S : Nat) (h : Nat → Nat) (w : World) (H : SC w0 b n h S w) (hi : i < n) (hj : j < n) (hk : k < n) :
    Calls Try.prog 69 #[.slice (some ⟨b, 0, none⟩) n c, .int .i64 (i : Int), .int .i64 (j : Int), .int .i64 (k : Int), .pointer (some ⟨S, 0, none⟩)] w fun e w' => ∃ x : Nat, e = .returned (.int .i64 (x : Int)) ∧ (x = i ∨ x = j ∨ x = k) ∧ SC w0 b n h S w' := by
  have HH := hid H
  clear H
  go_enter Try.func69, Try.ntmps69
  go_wp2_with fail
  with_reducible refine (order2_any w0 b n c i j S h _ HH.out hi hj).mono ?_
  rintro e w1 ⟨x1, y1, rfl, o1, hs1⟩
  have HS1 := hid hs1
  have hx1 : x1 < n := by omega
  have hy1 : y1 < n := by omega
  clear hs1 HH
  go_wp2_with fail
  with_reducible refine (order2_any w0 b n c y1 k S h _ HS1.out hy1 hk).mono ?_
  rintro e w2 ⟨x2, y2, rfl, o2, hs2⟩
  have HS2 := hid hs2
  have hx2 : x2 < n := by omega
  clear hs2 HS1
  go_wp2_with fail
  with_reducible refine (order2_any w0 b n c x1 x2 S h _ HS2.out hx1 hx2).mono ?_
  rintro e w3 ⟨x3, y3, rfl, o3, hs3⟩
  have HS3 := hid hs3
  clear hs3 HS2
  go_wp2
  go_ret
  exact ⟨y3, rfl, by omega, HS3.out⟩
theorem medAdj_any (w0 : World) (b n c i S : Nat) (h : Nat → Nat) (w : World) (H : SC w0 b n h S w) (hi : 0 < i) (hi2 : i + 1 < n) (hn : n ≤ 1000) :
    Calls Try.prog 68 #[.slice (some ⟨b, 0, none⟩) n c, .int .i64 (i : Int), .pointer (some ⟨S, 0, none⟩)] w fun e w' => ∃ x : Nat, e = .returned (.int .i64 (x : Int)) ∧ i ≤ x + 1 ∧ x ≤ i + 1 ∧ SC w0 b n h S w' := by
  obtain ⟨i1, hi1⟩ : ∃ i1, i = i1 + 1 := ⟨i - 1, by omega⟩
  obtain ⟨i2, hii2⟩ : ∃ i2, i2 = i + 1 := ⟨_, rfl⟩
  have e1 : (i : Int) - 1 = (i1 : Int) := by omega
  have e2 : (i : Int) + 1 = (i2 : Int) := by omega
  have hb1 : i1 ≤ 1000 := by omega
  have hb2 : i2 ≤ 1001 := by omega
  have HH := hid H
  have A := hid hi1
  have B := hid hii2
  clear H hi1 hii2
  go_enter Try.func68, Try.ntmps68
  go_wp2_with fail
  with_reducible refine (median_any w0 b n c i1 i i2 S h _ HH.out (by have := A.out; omega) (by omega) (by have := B.out; omega)).mono ?_
  rintro e w1 ⟨x, rfl, hx, hs⟩
  have HS := hid hs
  clear hs
  go_wp2
  go_ret
  have := A.out
  have := B.out
  exact ⟨x, rfl, by omega, by omega, HS.out⟩
theorem SB.counter {w0 w : World} {b n : Nat} {h : Nat → Nat} (H : SB w0 b n h w) : SC w0 b n h w.heap.size (w.alloc (.cells #[.int .i64 0] 3)) := by
  refine ⟨H.keep (bl_new w _), ⟨0, by simp⟩, ?_, by have := H.lt; omega, H.gr.size⟩
  unfold World.frozen?
  rw [heap_alloc_new]
  simp
/-- A pivot of [p, q) is chosen. -/
def PivB (w0 : World) (b n p q : Nat) (h : Nat → Nat) (e : Ending) (w' : World) : Prop :=
  ∃ (x : Nat) (t : Int), e = .returned (.tuple #[.int .i64 (x : Int), .int .i64 t]) ∧ (t = 0 ∨ t = 1 ∨ t = 2) ∧ p ≤ x ∧ x < q ∧ SB w0 b n h w'
set_option maxHeartbeats 1000000 in
theorem pivB_any (w0 : World) (b n c p q : Nat) (h : Nat → Nat) (w : World) (H : SB w0 b n h w) (h1 : p + 12 < q) (h2 : q ≤ n) (hn : n ≤ 1000) :
    Calls Try.prog 43 #[.slice (some ⟨b, 0, none⟩) n c, .int .i64 (p : Int), .int .i64 (q : Int)] w (PivB w0 b n p q h) := by
  have HC := hid H.counter
  obtain ⟨l, hl⟩ : ∃ l, l = q - p := ⟨_, rfl⟩
  obtain ⟨f, hf⟩ : ∃ f, f = l / 4 := ⟨_, rfl⟩
  obtain ⟨f2, hf2⟩ : ∃ f2, f2 = f * 2 := ⟨_, rfl⟩
  obtain ⟨f3, hf3⟩ : ∃ f3, f3 = f * 3 := ⟨_, rfl⟩
  obtain ⟨i, hi⟩ : ∃ i, i = p + f := ⟨_, rfl⟩
  obtain ⟨j, hj⟩ : ∃ j, j = p + f2 := ⟨_, rfl⟩
  obtain ⟨k, hk⟩ : ∃ k, k = p + f3 := ⟨_, rfl⟩
  have e1 : (q : Int) - (p : Int) = (l : Int) := by omega
  have e2 : (l : Int) / 4 = (f : Int) := by omega
  have e2' : (l : Int).tdiv 4 = (f : Int) := by rw [Int.tdiv_eq_ediv_of_nonneg (by omega)]; exact e2
  have e3 : (f : Int) * 2 = (f2 : Int) := by omega
  have e4 : (f : Int) * 3 = (f3 : Int) := by omega
  have e5 : (p : Int) + (f : Int) = (i : Int) := by omega
  have e6 : (p : Int) + (f2 : Int) = (j : Int) := by omega
  have e7 : (p : Int) + (f3 : Int) = (k : Int) := by omega
  have hlb : 8 ≤ l := by omega
  have hlb2 : l ≤ 1000 := by omega
  have hlb' : (8 : Int) ≤ (l : Int) := by omega
  have b1 : f ≤ 1000 := by omega
  have b2 : f2 ≤ 2000 := by omega
  have b3 : f3 ≤ 3000 := by omega
  have b4 : i ≤ 2000 := by omega
  have b5 : j ≤ 3000 := by omega
  have b6 : k ≤ 4000 := by omega
  have HF := hid (show p + 1 ≤ i ∧ i ≤ j ∧ j ≤ k ∧ k < q ∧ (50 ≤ l → k + 1 < q) by omega)
  clear H hl hf hf2 hf3 hi hj hk
  go_enter Try.func43, Try.ntmps43
  by_cases h50 : 50 ≤ l
  · have h50' : (50 : Int) ≤ (l : Int) := by omega
    go_wp2_with fail
    with_reducible refine (medAdj_any w0 b n c i w.heap.size h _ HC.out (by have := HF.out; omega) (by have := HF.out; omega) hn).mono ?_
    rintro e w1 ⟨i', rfl, a1, a2, hs1⟩
    have HS1 := hid hs1
    clear hs1 HC
    go_wp2_with fail
    with_reducible refine (medAdj_any w0 b n c j w.heap.size h _ HS1.out (by have := HF.out; omega) (by have := HF.out; omega) hn).mono ?_
    rintro e w2 ⟨j', rfl, b1', b2', hs2⟩
    have HS2 := hid hs2
    clear hs2 HS1
    go_wp2_with fail
    with_reducible refine (medAdj_any w0 b n c k w.heap.size h _ HS2.out (by have := HF.out; omega) (by have := HF.out; omega) hn).mono ?_
    rintro e w3 ⟨k', rfl, c1', c2', hs3⟩
    have HS3 := hid hs3
    clear hs3 HS2
    go_wp2_with fail
    with_reducible refine (median_any w0 b n c i' j' k' w.heap.size h _ HS3.out (by have := HF.out; omega) (by have := HF.out; omega) (by have := HF.out; omega)).mono ?_
    rintro e w4 ⟨x, rfl, hx, hs⟩
    clear HS3
    have hxq : p ≤ x ∧ x < q := by have := HF.out; omega
    have HSB := hid hs.sb
    obtain ⟨z, hz⟩ := hs.cell
    clear hs
    by_cases z0 : z = 0
    · subst z0
      go_wp2
      go_ret2
      exact ⟨x, _, rfl, by first | exact .inl rfl | exact .inr (.inl rfl) | exact .inr (.inr rfl), hxq.1, hxq.2, HSB.out⟩
    · have zb : (z == 0) = false := beq_eq_false_iff_ne.2 z0
      have zb2 : ((0 : Int) == z) = false := beq_eq_false_iff_ne.2 (fun e => z0 e.symm)
      by_cases z12 : z = 12
      · subst z12
        go_wp2
        go_ret2
        exact ⟨x, _, rfl, by first | exact .inl rfl | exact .inr (.inl rfl) | exact .inr (.inr rfl), hxq.1, hxq.2, HSB.out⟩
      · have zc : (z == 12) = false := beq_eq_false_iff_ne.2 z12
        have zc2 : ((12 : Int) == z) = false := beq_eq_false_iff_ne.2 (fun e => z12 e.symm)
        clear z0 z12
        go_wp2
        go_ret2
        exact ⟨x, _, rfl, by first | exact .inl rfl | exact .inr (.inl rfl) | exact .inr (.inr rfl), hxq.1, hxq.2, HSB.out⟩
  · have h50' : decide ((50 : Int) ≤ (l : Int)) = false := decide_eq_false (by omega)
    go_wp2_with fail
    with_reducible refine (median_any w0 b n c i j k w.heap.size h _ HC.out (by have := HF.out; omega) (by have := HF.out; omega) (by have := HF.out; omega)).mono ?_
    rintro e w4 ⟨x, rfl, hx, hs⟩
    clear HC
    have hxq : p ≤ x ∧ x < q := by have := HF.out; omega
    have HSB := hid hs.sb
    obtain ⟨z, hz⟩ := hs.cell
    clear hs
    by_cases z0 : z = 0
    · subst z0
      go_wp2
      go_ret2
      exact ⟨x, _, rfl, by first | exact .inl rfl | exact .inr (.inl rfl) | exact .inr (.inr rfl), hxq.1, hxq.2, HSB.out⟩
    · have zb : (z == 0) = false := beq_eq_false_iff_ne.2 z0
      have zb2 : ((0 : Int) == z) = false := beq_eq_false_iff_ne.2 (fun e => z0 e.symm)
      by_cases z12 : z = 12
      · subst z12
        go_wp2
        go_ret2
        exact ⟨x, _, rfl, by first | exact .inl rfl | exact .inr (.inl rfl) | exact .inr (.inr rfl), hxq.1, hxq.2, HSB.out⟩
      · have zc : (z == 12) = false := beq_eq_false_iff_ne.2 z12
        have zc2 : ((12 : Int) == z) = false := beq_eq_false_iff_ne.2 (fun e => z12 e.symm)
        clear z0 z12
        go_wp2
        go_ret2
        exact ⟨x, _, rfl, by first | exact .inl rfl | exact .inr (.inl rfl) | exact .inr (.inr rfl), hxq.1, hxq.2, HSB.out⟩
end Go.Proofs.Ytljpjjokfkbdcaa
