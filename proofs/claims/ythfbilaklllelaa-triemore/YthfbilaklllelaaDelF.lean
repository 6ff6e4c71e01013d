/-
The contract of slices.DeleteFunc at a row of hits of the program's own, with TrieMore's test.
-/
import Derived.Test.YthfbilaklllelaaDelH
namespace Go.Proofs.Ythfbilaklllelaa
open Go.RowKit

/-- The hits of H's first j that are not of pattern n. -/
def kept (n : Nat) (H : List (Nat × Nat)) (j : Nat) : List (Nat × Nat) := (H.take j).filter fun x => decide (x.2 ≠ n)
theorem kept_yes {n : Nat} {H : List (Nat × Nat)} {j : Nat} (hj : j < H.length) (h : (H.getD j (0, 0)).2 ≠ n) : kept n H (j + 1) = kept n H j ++ [H.getD j (0, 0)] := by
  unfold kept
  rw [getD_lt hj] at h ⊢
  rw [List.take_add_one, List.getElem?_eq_getElem hj, List.filter_append]
  simp [h]
theorem kept_no {n : Nat} {H : List (Nat × Nat)} {j : Nat} (hj : j < H.length) (h : (H.getD j (0, 0)).2 = n) : kept n H (j + 1) = kept n H j := by
  unfold kept
  rw [getD_lt hj] at h
  rw [List.take_add_one, List.getElem?_eq_getElem hj, List.filter_append]
  simp [h]
theorem kept_all {n : Nat} {H : List (Nat × Nat)} {j : Nat} (hj : j ≤ H.length) (h : ∀ k, k < j → (H.getD k (0, 0)).2 ≠ n) : kept n H j = H.take j := by
  unfold kept
  rw [List.filter_eq_self]
  intro x hx
  obtain ⟨i, hi, rfl⟩ := List.mem_iff_getElem.1 hx
  have hi' : i < j := by have := hi; simp at this; omega
  have := h i hi'
  rw [getD_lt (by omega)] at this
  rw [List.getElem_take]
  exact decide_eq_true this
theorem kept_len (n : Nat) (H : List (Nat × Nat)) (j : Nat) : (kept n H j).length ≤ j := by
  unfold kept
  refine Nat.le_trans (List.length_filter_le _ _) ?_
  simp
  omega

/-- The state of the deletion: i kept of the first j. -/
def DelAt (w : World) (g m n : Nat) (H : List (Nat × Nat)) (i j : Nat) : Prop :=
  i = (kept n H j).length ∧ ∃ r, RowH w g m r ∧ (∀ k, k < i → r k = (kept n H j).getD k (0, 0)) ∧ (∀ k, j ≤ k → k < m → r k = H.getD k (0, 0))
theorem DelAt.of_block {w w' : World} {g m n : Nat} {H : List (Nat × Nat)} {i j : Nat} (h : DelAt w g m n H i j) (e : w'.heap[g]? = w.heap[g]?) : DelAt w' g m n H i j := by
  obtain ⟨h1, r, h2, h3⟩ := h
  exact ⟨h1, r, h2.of_block e, h3⟩
theorem DelAt.lt {w : World} {g m n : Nat} {H : List (Nat × Nat)} {i j : Nat} (h : DelAt w g m n H i j) : g < w.heap.size := by
  obtain ⟨_, r, h2, _⟩ := h
  exact h2.lt
theorem DelAt.skip {w : World} {g m n : Nat} {H : List (Nat × Nat)} {i j : Nat} (h : DelAt w g m n H i j) (hj : j < H.length) (hx : (H.getD j (0, 0)).2 = n) : DelAt w g m n H i (j + 1) := by
  obtain ⟨h1, r, h2, h3, h4⟩ := h
  rw [← kept_no hj hx] at h1 h3
  exact ⟨h1, r, h2, h3, fun k hk => h4 k (by omega)⟩
theorem DelAt.take {w : World} {g m n : Nat} {H : List (Nat × Nat)} {i j : Nat} (h : DelAt w g m n H i j) (hj : j < H.length) (hij : i < j) (hx : (H.getD j (0, 0)).2 ≠ n) :
    DelAt ((w.setCell ⟨g, i * 2, none⟩ (.int .i64 ((H.getD j (0, 0)).1 : Int))).setCell ⟨g, i * 2 + 1, none⟩ (.int .i64 ((H.getD j (0, 0)).2 : Int))) g m n H (i + 1) (j + 1) := by
  obtain ⟨h1, r, h2, h3, h4⟩ := h
  refine ⟨by rw [kept_yes hj hx, List.length_append, ← h1]; rfl, _, h2.set i (H.getD j (0, 0)), fun k hk => ?_, fun k hk hm => ?_⟩
  · rw [kept_yes hj hx]
    by_cases e : k = i
    · subst e
      rw [if_pos rfl]
      generalize H.getD j (0, 0) = X
      rw [List.getD_eq_getElem?_getD, List.getElem?_append_right (by omega), ← h1, Nat.sub_self]
      rfl
    · rw [if_neg e, h3 k (by omega), List.getD_eq_getElem?_getD, List.getD_eq_getElem?_getD, List.getElem?_append_left (by omega)]
  · rw [if_neg (by omega)]
    exact h4 k (by omega) hm

/-- What is left of H. -/
def RetKept (w : World) (g n : Nat) (H : List (Nat × Nat)) (e : Ending) (w' : World) : Prop :=
  ∃ c, e = .returned (.slice (some ⟨g, 0, none⟩) (kept n H H.length).length c) ∧ RowH w' g (kept n H H.length).length (fun k => (kept n H H.length).getD k (0, 0)) ∧ w.grownBy w' (some g)
theorem grown_below {w a b : World} {g : Nat} (h : w.grownBy a (some g)) (k : Below a.heap.size a b) : w.grownBy b (some g) :=
  ⟨k.os.trans h.os, k.tape.trans h.tape, k.output.trans h.output, Nat.le_trans h.size k.size, fun x hx hne => (k.block x (Nat.lt_of_lt_of_le hx h.size)).trans (h.block x hx hne)⟩
theorem grown_trans {w a b : World} {g : Nat} (h : w.grownBy a (some g)) (k : a.grownBy b (some g)) : w.grownBy b (some g) :=
  ⟨k.os.trans h.os, k.tape.trans h.tape, k.output.trans h.output, Nat.le_trans h.size k.size, fun x hx hne => (k.block x (Nat.lt_of_lt_of_le hx h.size) hne).trans (h.block x hx hne)⟩
theorem grown_of_below {w a : World} {g : Nat} (k : Below w.heap.size w a) : w.grownBy a (some g) := ⟨k.os, k.tape, k.output, k.size, fun x hx _ => k.block x hx⟩
theorem grown_set {w a : World} {g i : Nat} {v : Value} (h : w.grownBy a (some g)) : w.grownBy (a.setCell ⟨g, i, none⟩ v) (some g) :=
  ⟨h.os, h.tape, h.output, by simpa using h.size, fun x hx hne => (Below.heap_setCell a _ v x (fun e => hne (by rw [e]))).trans (h.block x hx hne)⟩

set_option maxRecDepth 100000 in
theorem more_del (N : Nat) (A1 : Option Addr) (n c1 : Nat) (g m c : Nat) (H : List (Nat × Nat)) (w : World) (hN : w.cell? ⟨N, 0, none⟩ = some (.slice A1 n c1)) (hl : N < w.heap.size) (hNg : N ≠ g) (hm : m = H.length) (hr : RowH w g m (fun k => H.getD k (0, 0))) (hc : m ≤ c) (hm2 : m ≤ 1000000) :
    Calls Try.prog 21 #[.slice (some ⟨g, 0, none⟩) m c, .func (.func 23) #[] #[.pointer (some ⟨N, 0, none⟩)]] w (RetKept w g n H) := by
  have HR := hid hr
  have HN := hid hN
  have HM := hid hm
  clear hr hN hm
  go_enter Try.func21, Try.ntmps21
  go_wp2_with fail
  with_reducible refine (more_idx _ _ _ _ _ _ _ _ _ HN.out hl HR.out.row hm2).mono ?_
  rintro e w1 ⟨hb, ⟨rfl, hno⟩ | ⟨i0, hi0, rfl, hyes, hfst⟩⟩
  · have HE : Hid (kept n H H.length = H) := by
      show kept n H H.length = H
      rw [kept_all (Nat.le_refl _) (fun k hk => hno k (by rw [HM.out]; exact hk)), List.take_length]
    have HB := hid hb
    clear hno hb
    go_wp2
    go_ret
    refine ⟨c, by rw [HE.out, ← HM.out]; rfl, ?_, grown_of_below HB.out⟩
    rw [HE.out, ← HM.out]
    exact HR.out.of_block (HB.out.block g HR.out.lt)
  · have HD : Hid (DelAt w1 g m n H i0 (i0 + 1)) := by
      have hl0 : i0 < H.length := by rw [← HM.out]; exact hi0
      have hk : kept n H i0 = H.take i0 := kept_all (by omega) hfst
      refine DelAt.skip ⟨by rw [hk]; simp; omega, _, HR.out.of_block (hb.block g HR.out.lt), fun k hk' => ?_, fun k _ _ => rfl⟩ hl0 hyes
      rw [hk, List.getD_eq_getElem?_getD, List.getD_eq_getElem?_getD, List.getElem?_take, if_pos hk']
    have HB := hid (grown_of_below (g := g) hb)
    have hne1 : ((i0 : Int) == -1) = false := beq_eq_false_iff_ne.2 (by omega)
    clear hyes hfst hb
    go_wp2
    go_loopw [5, 6] (fun x y wr => ∃ i j : Nat, i < j ∧ j ≤ m ∧ x = .int .i64 i ∧ y = .int .i64 j ∧ Hid (DelAt wr g m n H i j) ∧ Hid (w.grownBy wr (some g))) (fun _ y _ => m - (intOf y).toNat)
    case atStart => exact ⟨i0, i0 + 1, by omega, by omega, rfl, by go_num, HD, HB⟩
    case round =>
      clear HD HB
      obtain ⟨i, j, hij, hj, rfl, rfl, HD, HB⟩ := hrel
      by_cases hjm : j < m
      · have hjH : j < H.length := by rw [← HM.out]; exact hjm
        obtain ⟨hl0, r, hr, hr1, hr2⟩ := HD.out
        have hcl := hr.cells hjm
        rw [hr2 j (Nat.le_refl _) hjm] at hcl
        obtain ⟨hv1, hv2⟩ := hcl
        obtain ⟨X, hX⟩ : ∃ X, X = H.getD j (0, 0) := ⟨_, rfl⟩
        rw [← hX] at hv1 hv2
        have HX := hid hX
        have HNr : Hid ((wr.alloc (.cells #[.int .i64 (X.1 : Int), .int .i64 (X.2 : Int)] 36)).cell? ⟨N, 0, none⟩ = some (.slice A1 n c1)) := by
          show _ = _
          rw [World.cell?_alloc_lt _ _ _ (Nat.lt_of_lt_of_le hl HB.out.size)]
          exact HB.out.cell HN.out (fun e => hNg (by injection e))
        have hlr : N < (wr.alloc (.cells #[.int .i64 (X.1 : Int), .int .i64 (X.2 : Int)] 36)).heap.size := by
          have := HB.out.size
          simp
          omega
        have HLr := hid hlr
        clear hr hr1 hr2 hX hlr hl0 r
        go_wp2_with fail
        with_reducible refine (more_clo _ _ _ _ X _ HNr.out HLr.out).mono ?_
        rintro e w5 ⟨rfl, hb5⟩
        have hw5 := bl_then (bl_new wr _) hb5
        have HD5 := hid (HD.out.of_block (hw5.block g HD.out.lt))
        have HB5 := hid (grown_below HB.out hw5)
        have hx1 : w5.cell? ⟨wr.heap.size, 0, none⟩ = some (.int .i64 (X.1 : Int)) := by rw [hb5.cell (p := ⟨wr.heap.size, 0, none⟩) (by simp)]; simp
        have hx2 : w5.cell? ⟨wr.heap.size, 1, none⟩ = some (.int .i64 (X.2 : Int)) := by rw [hb5.cell (p := ⟨wr.heap.size, 1, none⟩) (by simp)]; simp
        by_cases hx : X.2 = n
        · rw [decide_eq_true hx]
          have HXn := hid hx
          clear hx hx1 hx2 hw5 hb5 hv1 hv2
          go_wp2
          go_roundw
          case measure => simp [intOf]; omega
          case rel => exact ⟨i, j + 1, by omega, by omega, rfl, by go_num, hid (HD5.out.skip hjH (by rw [← HX.out]; exact HXn.out)), HB5⟩
        · rw [decide_eq_false hx]
          have HXn := hid hx
          obtain ⟨hl5, r5, hr5, hr6⟩ := HD5.out
          obtain ⟨hc1, hc2⟩ := hr5.cells (k := i) (by omega)
          have hf1 := hr5.frozen (i * 2)
          have hf2 := hr5.frozen (i * 2 + 1)
          clear hx hw5 hb5 hv1 hv2 hr5 hl5 hr6
          go_wp2
          go_roundw
          case measure => simp [intOf]; omega
          case rel =>
            refine ⟨i + 1, j + 1, by omega, by omega, by go_num, by go_num, ?_, hid (grown_set (grown_set HB5.out))⟩
            have := HD5.out.take hjH hij (by rw [← HX.out]; exact HXn.out)
            rw [← HX.out] at this
            exact this
      · obtain rfl : j = m := by omega
        obtain ⟨hlen, r, hr, hr1, _⟩ := HD.out
        have HRr := hid hr
        have H1 := hid hr1
        have HLn := hid hlen
        have hci : ¬ (c = i) := by omega
        clear hr hr1 hlen
        go_wp2_with (with_reducible refine wpList_clear_hits rfl _ rfl i (j - i) (c - i) (by simp [Act.eval]) HRr.out (by omega) (by omega) ?_; intro w6 G1 G2)
        go_ret
        refine ⟨c, ?_, ?_, grown_trans HB.out G2.out⟩
        · rw [← HM.out, ← HLn.out]; rfl
        · rw [← HM.out, ← HLn.out]
          exact G1.out.congr H1.out
end Go.Proofs.Ythfbilaklllelaa
