
/-
quilllaw.SameSays: whatever two words: it answers true.
-/
import Derived.Test.YtjbpgeakjcmnaaaSamePub
import Derived.Test.YtjbpgeakjcmnaaaRefSame
namespace Go.Proofs.Ytjbpgeakjcmnaaa
open Go.RowKit

set_option maxHeartbeats 4000000 in
set_option maxRecDepth 100000 in
theorem sameSays_walk (a b : ByteArray) (_ : a.size ≤ maxLen) (_ : b.size ≤ maxLen) (w : World) (hm : ∃ m, w.cell? ⟨0, 0, none⟩ = some (.int .i64 m)) (hw : 0 < w.heap.size) :
    Calls Try.prog 3 #[.string a, .string b] w fun e w' => e = .returned (.bool true) ∧ Below w.heap.size w w' := by
  obtain ⟨m, hm⟩ := hm
  have HMX := hid hm
  have HWP := hid hw
  clear hm hw
  by_cases h : a.size ≤ 200 ∧ b.size ≤ 200
  · obtain ⟨ha, hb⟩ := h
    obtain ⟨n, hn⟩ : ∃ n, n = Sa.lc (lst a) (lst b) := ⟨_, rfl⟩
    obtain ⟨r, hr⟩ : ∃ r, r = Sa.lies (lst a) (lst b) := ⟨_, rfl⟩
    have hn200 : n ≤ 200 := by have := Sa.lc_left (lst a) (lst b); rw [lst_len] at this; omega
    have HN := hid hn
    have HRR := hid hr
    have hrr : (r == r) = true := by simp
    clear hn hr
    go_enter Try.func3, Try.ntmps3
    go_wp2_with fail
    with_reducible refine (Long_ok a b _ ha hb).mono ?_
    rintro e w1 ⟨he, hb1⟩
    rw [← HN.out] at he
    subst he
    have HB := hid hb1
    clear hb1
    go_wp2_with fail
    with_reducible refine (Places_ok a b _ ha hb).mono ?_
    rintro e w2 ⟨L, M, A, B, ca, cb, hl, rfl, hr1, hr2, hb2⟩
    have HB := hid (bl_then HB.out hb2)
    have hlL : L.length = n := hl.len.trans HN.out.symm
    have hlM : M.length = n := hl.same.trans HN.out.symm
    rw [hlL] at hr1 ⊢
    rw [hlM] at hr2 ⊢
    have HL := hid hl
    have HLL := hid hlL
    have HR1 := hid hr1
    have HR2 := hid hr2
    clear hb2 hl hlL hlM hr1 hr2
    go_wp2_with fail
    with_reducible refine (Within_ok a b _ ha hb).mono ?_
    rintro e w3 ⟨he, hd3⟩
    rw [← HRR.out] at he
    subst he
    have HB := hid (HB.out.trans (hd3.below _))
    have HR1 := hid (HR1.out.keep (hd3.below _))
    have HR2 := hid (HR2.out.keep (hd3.below _))
    clear hd3
    go_wp2_with fail
    with_reducible refine (longTwo_ok a b _ _ (two_strings _ _ _ _) ha hb).mono ?_
    rintro e w4 ⟨rfl, rfl⟩
    have HB := hid (HB.out.alloc HB.out.size (.cells #[.string a, .string b] 9))
    have HR1 := hid (HR1.out.alloc (.cells #[.string a, .string b] 9))
    have HR2 := hid (HR2.out.alloc (.cells #[.string a, .string b] 9))
    generalize w3.alloc (.cells #[.string a, .string b] 9) = w4 at *
    go_wp2_with fail
    with_reducible refine (sameCheck_ok a b _ ha hb).mono ?_
    rintro e w5 ⟨rfl, rfl⟩
    go_wp2_with fail
    with_reducible refine (SameOf_ok a b _ ha hb).mono ?_
    rintro e w5 ⟨he, hb5⟩
    rw [← HN.out] at he
    subst he
    have HR1 := hid (HR1.out.keep hb5)
    have HR2 := hid (HR2.out.keep hb5)
    have HB := hid (bl_then HB.out hb5)
    clear hb5
    go_wp2
    go_loopw [100] (fun y wr => ∃ k : Nat, k ≤ n ∧ y = .int .i64 (k : Int) ∧ Hid (Drew w5 wr)) (fun y _ => n - (intOf y).toNat)
    case atStart => exact ⟨0, by omega, rfl, Drew.refl _⟩
    case round =>
      obtain ⟨k, hk, rfl, HDR⟩ := hrel
      have HR1 := hid (HR1.out.keep (HDR.out.below _))
      have HR2 := hid (HR2.out.keep (HDR.out.below _))
      have HB := hid (HB.out.trans (HDR.out.below _))
      by_cases hkn : k < n
      · have hkn' : (k : Int) < (n : Int) := by omega
        obtain ⟨b1, o1, rfl, hbl1, hc1⟩ := HR1.out k hkn
        obtain ⟨b2, o2, rfl, hbl2, hc2⟩ := HR2.out k hkn
        have hp := HL.out.left k (by rw [HLL.out]; exact hkn)
        have hq := HL.out.right k (by rw [HLL.out]; exact hkn)
        have hal := HL.out.alike k (by rw [HLL.out]; exact hkn)
        rw [lst_len] at hp hq
        have HC1 := HR1
        have HC2 := HR2
        obtain ⟨p, hpe⟩ : ∃ p, p = L.getD k 0 := ⟨_, rfl⟩
        obtain ⟨q, hqe⟩ : ∃ q, q = M.getD k 0 := ⟨_, rfl⟩
        try simp only at hc1 hc2
        rw [← hpe] at hp hc1
        rw [← hqe] at hq hc2
        rw [← hpe, ← hqe] at hal
        have hbyt : ((a[p].toNat : Int) != (b[q].toNat : Int)) = false := by
          rw [← byt_eq hp, ← byt_eq hq, show byt a p = byt b q from hal]; simp
        have hbyt2 : ((a[p].toNat : Int) == (b[q].toNat : Int)) = true := by
          rw [← byt_eq hp, ← byt_eq hq, show byt a p = byt b q from hal]; simp
        have hp' : (p : Int) < (a.size : Int) := by omega
        have hq' : (q : Int) < (b.size : Int) := by omega
        have hp0 : (0 : Int) ≤ (p : Int) := by omega
        have hq0 : (0 : Int) ≤ (q : Int) := by omega
        have g1 : decide ((p : Int) < 0) = false := decide_eq_false (by omega)
        have g2 : decide ((q : Int) < 0) = false := decide_eq_false (by omega)
        have g3 : decide (a.size ≤ p) = false := decide_eq_false (by omega)
        have g4 : decide (b.size ≤ q) = false := decide_eq_false (by omega)
        by_cases hk0 : k = 0
        · subst hk0
          rw [Nat.add_zero] at hc1 hc2
          clear hpe hqe hal hbl1 hbl2 HC1 HC2 HR1 HR2 HL HLL
          go_wp2
          simp only [List.append_eq, List.cons_append, List.nil_append]
          go_quiet (fail)
          go_wp2
          go_roundw
          case rel => exact ⟨1, by omega, by go_num, HDR.out.more _⟩
          case measure => simp [intOf]; omega
        · obtain ⟨j, hj⟩ : ∃ j, k = j + 1 := ⟨k - 1, by omega⟩
          have ej : (k : Int) - 1 = (j : Int) := by omega
          have ejw : IntKind.i64.wrap (j : Int) = (j : Int) := IntWalk.i64_in _ (by omega)
          have hjn : (j : Int) < (n : Int) := by omega
          have hj0 : (0 : Int) ≤ (j : Int) := by omega
          have hkpos : (0 : Int) < (k : Int) := by omega
          obtain ⟨b3, o3, e3, _, hc3⟩ := HC1.out j (by omega)
          obtain ⟨rfl, rfl⟩ : b1 = b3 ∧ o1 = o3 := by injection e3 with e3; injection e3 with e1 e2; exact ⟨e1, e2⟩
          obtain ⟨b4, o4, e4, _, hc4⟩ := HC2.out j (by omega)
          obtain ⟨rfl, rfl⟩ : b2 = b4 ∧ o2 = o4 := by injection e4 with e4; injection e4 with e1 e2; exact ⟨e1, e2⟩
          have hup := HL.out.up j (by rw [HLL.out]; omega)
          rw [← hj, ← hpe, ← hqe] at hup
          obtain ⟨p2, hp2⟩ : ∃ p2, p2 = L.getD j 0 := ⟨_, rfl⟩
          obtain ⟨q2, hq2⟩ : ∃ q2, q2 = M.getD j 0 := ⟨_, rfl⟩
          try simp only at hc3 hc4
          rw [← hp2] at hup hc3
          rw [← hq2] at hup hc4
          have hu1 : decide (p ≤ p2) = false := decide_eq_false (by omega)
          have hu2 : decide (q ≤ q2) = false := decide_eq_false (by omega)
          have hu3 : decide (0 < k) = true := decide_eq_true (by omega)
          clear hpe hqe hal hbl1 hbl2 hj hk0 e3 e4 hup hp2 hq2 HC1 HC2 HR1 HR2 HL HLL
          go_wp2
          simp only [List.append_eq, List.cons_append, List.nil_append]
          go_quiet (fail)
          go_wp2
          go_roundw
          case rel => exact ⟨k + 1, by omega, by go_num, HDR.out.more _⟩
          case measure => simp [intOf]; omega
      · obtain rfl : k = n := by omega
        have hkk : decide ((k : Int) < (k : Int)) = false := decide_eq_false (by omega)
        have hmm := (HB.out.cell (p := ⟨0, 0, none⟩) HWP.out).trans HMX.out
        have hIn := hid (In_any m a.size a b wr (Nat.le_refl _) hb hmm)
        clear HR1 HR2 HL HLL hmm
        go_wp2_with fail
        with_reducible refine hIn.out.mono ?_
        rintro e w9 ⟨he, hd9⟩
        rw [← HRR.out] at he
        subst he
        have HB := hid (HB.out.trans (hd9.below _))
        clear hd9
        go_wp2
        go_ret
        exact ⟨rfl, HB.out⟩
  · have h1 : 200 < a.size ∨ 200 < b.size := by omega
    clear h
    go_enter Try.func3, Try.ntmps3
    go_wp2_with fail
    with_reducible refine (Long_large a b _ h1).mono ?_
    rintro e w2 ⟨rfl, rfl⟩
    go_wp2_with fail
    with_reducible refine (Places_large a b _ h1).mono ?_
    rintro e w2 ⟨rfl, rfl⟩
    go_wp2_with fail
    with_reducible refine (Within_large a b _ h1).mono ?_
    rintro e w2 ⟨rfl, rfl⟩
    go_wp2_with fail
    with_reducible refine (longTwo_large a b _ _ (two_strings _ _ _ _) h1).mono ?_
    rintro e w4 ⟨rfl, rfl⟩
    go_wp2_with fail
    with_reducible refine (sameCheck_large a b _ h1).mono ?_
    rintro e w5 ⟨rfl, rfl⟩
    go_wp2
    go_ret
    exact ⟨rfl, bl_new _ _⟩
end Go.Proofs.Ytjbpgeakjcmnaaa
