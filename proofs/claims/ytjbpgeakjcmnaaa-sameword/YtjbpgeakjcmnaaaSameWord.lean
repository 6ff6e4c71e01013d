
/-
quillkeep.SameWord: whatever three words: it answers true.
-/
import Derived.Test.YtjbpgeakjcmnaaaSames
import Derived.Test.YtjbpgeakjcmnaaaTwoTexts
namespace Go.Proofs.Ytjbpgeakjcmnaaa
open Go.RowKit

/-- The bytes of s at the first k places of L. -/
def atP (s : ByteArray) (L : List Nat) (k : Nat) : List UInt8 := (L.take k).map fun p => (lst s).getD p 0
theorem atP_zero (s : ByteArray) (L : List Nat) : atP s L 0 = [] := rfl
theorem atP_succ (s : ByteArray) {L : List Nat} {k : Nat} (h : k < L.length) : atP s L (k + 1) = atP s L k ++ [byt s (L.getD k 0)] := by
  unfold atP
  rw [List.take_add_one, List.map_append, List.getElem?_eq_getElem h, List.getD_eq_getElem?_getD, List.getElem?_eq_getElem h]
  rfl
theorem atP_len (s : ByteArray) {L : List Nat} {k : Nat} (h : k ≤ L.length) : (atP s L k).length = k := by
  unfold atP
  rw [List.length_map, List.length_take]
  omega
theorem atP_all (s : ByteArray) (L : List Nat) : atP s L L.length = L.map fun p => (lst s).getD p 0 := by unfold atP; rw [List.take_length]
set_option maxHeartbeats 4000000 in
set_option maxRecDepth 100000 in
theorem sameWord_walk (a b c : ByteArray) (_ : a.size ≤ maxLen) (_ : b.size ≤ maxLen) (_ : c.size ≤ maxLen) (w : World) :
    Calls Try.prog 5 #[.string a, .string b, .string c] w fun e w' => e = .returned (.bool true) ∧ Below w.heap.size w w' := by
  by_cases h : a.size ≤ 200 ∧ b.size ≤ 200
  · obtain ⟨ha, hb⟩ := h
    obtain ⟨n, hn⟩ : ∃ n, n = Sa.lc (lst a) (lst b) := ⟨_, rfl⟩
    have hn200 : n ≤ 200 := by have := Sa.lc_left (lst a) (lst b); rw [lst_len] at this; omega
    have HN := hid hn
    clear hn
    go_enter Try.func5, Try.ntmps5
    go_wp2_with fail
    with_reducible refine (sames_ok _).mono ?_
    rintro e w1 ⟨rfl, hb1⟩
    have HB := hid hb1
    clear hb1
    go_wp2_with fail
    with_reducible refine (Long_ok a b _ ha hb).mono ?_
    rintro e w2 ⟨he, hb2⟩
    rw [← HN.out] at he
    subst he
    have HB := hid (bl_then HB.out hb2)
    clear hb2
    go_wp2_with fail
    with_reducible refine (Places_ok a b _ ha hb).mono ?_
    rintro e w3 ⟨L, M, A, B, ca, cb, hl, rfl, hr1, hr2, hb2⟩
    have HB := hid (bl_then HB.out hb2)
    have hlL : L.length = n := hl.len.trans HN.out.symm
    have hlM : M.length = n := hl.same.trans HN.out.symm
    rw [hlL] at hr1 ⊢
    rw [hlM] at hr2 ⊢
    have HL := hid hl
    have HLL := hid hlL
    have HLM := hid hlM
    have HR1 := hid hr1
    have HR2 := hid hr2
    clear hb2 hl hlL hlM hr1 hr2
    go_wp2
    go_loopw [12, 13, 53] (fun u v y wr => ∃ k : Nat, k ≤ n ∧ y = .int .i64 (k : Int) ∧ Hid (Dr w3 wr w3.heap.size u (atP a L k) v (atP b M k))) (fun _ _ y _ => n - (intOf y).toNat)
    case atStart => exact ⟨0, by omega, rfl, Dr.start _⟩
    case round =>
      obtain ⟨k, hk, rfl, HD⟩ := hrel
      by_cases hkn : k < n
      · have hkn' : (k : Int) < (n : Int) := by omega
        obtain ⟨b1, o1, rfl, hbl1, hc1⟩ := HR1.out k hkn
        obtain ⟨b2, o2, rfl, hbl2, hc2⟩ := HR2.out k hkn
        have hp := HL.out.left k (by rw [HLL.out]; exact hkn)
        have hq := HL.out.right k (by rw [HLL.out]; exact hkn)
        rw [lst_len] at hp hq
        have HS1 := hid (atP_succ a (L := L) (k := k) (by rw [HLL.out]; exact hkn))
        have HS2 := hid (atP_succ b (L := M) (k := k) (by rw [HLM.out]; exact hkn))
        have hl1 : (atP a L k).length < 1000000 := by rw [atP_len a (by rw [HLL.out]; exact hk)]; omega
        have hl2 : (atP b M k).length < 1000000 := by rw [atP_len b (by rw [HLM.out]; exact hk)]; omega
        obtain ⟨p, hpe⟩ : ∃ p, p = L.getD k 0 := ⟨_, rfl⟩
        obtain ⟨q, hqe⟩ : ∃ q, q = M.getD k 0 := ⟨_, rfl⟩
        try simp only at hc1 hc2
        rw [← hpe] at hp hc1 HS1
        rw [← hqe] at hq hc2 HS2
        rw [byt_eq hp] at HS1
        rw [byt_eq hq] at HS2
        clear hpe hqe
        have KS : ∀ W, Below w3.heap.size w3 W → W.cell? ⟨b1, o1 + k, none⟩ = some (.int .i64 (p : Int)) ∧ W.cell? ⟨b2, o2 + k, none⟩ = some (.int .i64 (q : Int)) := fun W h => ⟨(h.cell (p := ⟨b1, o1 + k, none⟩) hbl1).trans hc1, (h.cell (p := ⟨b2, o2 + k, none⟩) hbl2).trans hc2⟩
        obtain ⟨e1, e2⟩ := KS wr HD.out.below
        have HKS := hid KS
        have hp' : (p : Int) < (a.size : Int) := by omega
        have hq' : (q : Int) < (b.size : Int) := by omega
        have hp0 : (0 : Int) ≤ (p : Int) := by omega
        have hq0 : (0 : Int) ≤ (q : Int) := by omega
        have D0 : Dr w3 wr.drew w3.heap.size u12 (atP a L k) u13 (atP b M k) := HD.out.drewN 1
        have DA : Dr w3 (wr.alloc (.cells #[.int .u8 ((a[p]'hp).toNat : Int)] 5)).drew w3.heap.size u12 (atP a L k) u13 (atP b M k) := (HD.out.alloc _).drewN 1
        have DB : Dr w3 (wr.alloc (.cells #[.int .u8 ((b[q]'hq).toNat : Int)] 5)).drew w3.heap.size u12 (atP a L k) u13 (atP b M k) := (HD.out.alloc _).drewN 1
        have DAB : Dr w3 ((wr.alloc (.cells #[.int .u8 ((a[p]'hp).toNat : Int)] 5)).alloc (.cells #[.int .u8 ((b[q]'hq).toNat : Int)] 5)).drew w3.heap.size u12 (atP a L k) u13 (atP b M k) := ((HD.out.alloc _).alloc _).drewN 1
        have DBA : Dr w3 ((wr.alloc (.cells #[.int .u8 ((b[q]'hq).toNat : Int)] 5)).alloc (.cells #[.int .u8 ((a[p]'hp).toNat : Int)] 5)).drew w3.heap.size u12 (atP a L k) u13 (atP b M k) := ((HD.out.alloc _).alloc _).drewN 1
        have PA : Pend (wr.alloc (.cells #[.int .u8 ((a[p]'hp).toNat : Int)] 5)).drew u12 u13 wr.heap.size (a[p]'hp) := (Pend.new HD.out _ _ rfl).drewN 1
        have PB : Pend (wr.alloc (.cells #[.int .u8 ((b[q]'hq).toNat : Int)] 5)).drew u12 u13 wr.heap.size (b[q]'hq) := (Pend.new HD.out _ _ rfl).drewN 1
        have PAAB : Pend ((wr.alloc (.cells #[.int .u8 ((a[p]'hp).toNat : Int)] 5)).alloc (.cells #[.int .u8 ((b[q]'hq).toNat : Int)] 5)).drew u12 u13 wr.heap.size (a[p]'hp) := ((Pend.new HD.out _ _ rfl).up _).drewN 1
        have PBAB : Pend ((wr.alloc (.cells #[.int .u8 ((a[p]'hp).toNat : Int)] 5)).alloc (.cells #[.int .u8 ((b[q]'hq).toNat : Int)] 5)).drew u12 u13 (wr.heap.size + 1) (b[q]'hq) := (Pend.new (HD.out.alloc _) _ _ (by simp)).drewN 1
        have PBBA : Pend ((wr.alloc (.cells #[.int .u8 ((b[q]'hq).toNat : Int)] 5)).alloc (.cells #[.int .u8 ((a[p]'hp).toNat : Int)] 5)).drew u12 u13 wr.heap.size (b[q]'hq) := ((Pend.new HD.out _ _ rfl).up _).drewN 1
        have PABA : Pend ((wr.alloc (.cells #[.int .u8 ((b[q]'hq).toNat : Int)] 5)).alloc (.cells #[.int .u8 ((a[p]'hp).toNat : Int)] 5)).drew u12 u13 (wr.heap.size + 1) (a[p]'hp) := (Pend.new (HD.out.alloc _) _ _ (by simp)).drewN 1
        clear KS hc1 hc2 hbl1 hbl2 HD
        go_wp2
        go_region_held3 (fun W => W.cell? ⟨b1, o1 + k, none⟩ = some (.int .i64 (p : Int)) ∧ W.cell? ⟨b2, o2 + k, none⟩ = some (.int .i64 (q : Int))) (first | exact ⟨e1, e2⟩ | exact HKS.out _ (Dr.below (by first | assumption | exact Dr.alloc HD2 _))) (first | (refine step_two (x := a[p]'hp) rfl _ _ rfl rfl rfl (by first | assumption | exact Dr.alloc HD2 _) (by first | assumption | exact Pend.new HD2 _ _ rfl | exact HP2 _ _ (by assumption)) (by assumption) ?_; intro g c w2 HD2 HP2) | (refine step_two (x := b[q]'hq) rfl _ _ rfl rfl rfl (Dr.turn (by first | assumption | exact Dr.alloc HD2 _)) (Pend.turn (by first | assumption | exact Pend.new HD2 _ _ rfl | exact HP2 _ _ (by assumption))) (by assumption) ?_; intro g c w2 HD2' HP2'; have HD2 := Dr.turn HD2'; have HP2 := fun N' y h => Pend.turn (HP2' N' y (Pend.turn h)); clear HD2' HP2'))
        all_goals (
          rw [← HS1.out, ← HS2.out] at HD2
          go_wp2
          go_roundw
          case rel => exact ⟨k + 1, by omega, by go_num, hid HD2⟩
          case measure => simp [intOf]; omega)
      · obtain rfl : k = n := by omega
        have hkk : decide ((k : Int) < (k : Int)) = false := decide_eq_false (by omega)
        obtain ⟨A1, c1, rfl⟩ := HD.out.one.shape
        obtain ⟨A2, c2, rfl⟩ := HD.out.two.shape
        have hz1 : (atP a L k).length = k := atP_len a (by rw [HLL.out]; exact hk)
        have hz2 : (atP b M k).length = k := atP_len b (by rw [HLM.out]; exact hk)
        have ht1 : atP a L k = L.map fun p => (lst a).getD p 0 := by rw [← atP_all, HLL.out]
        have ht2 : atP b M k = L.map fun p => (lst a).getD p 0 := by rw [HL.out.word, ← atP_all, HLM.out]
        have hs1 := HL.out.sub_left
        have hs2 := HL.out.sub_right
        rw [← HL.out.word] at hs2
        obtain ⟨T, hT⟩ : ∃ T, T = L.map fun p => (lst a).getD p 0 := ⟨_, rfl⟩
        rw [← hT] at ht1 ht2 hs1 hs2
        rw [ht1] at hz1
        rw [ht1, ht2] at HD
        rw [ht1, ht2]
        have hw1 : Sa.lies (lst (mkS T)) (lst a) = true := by rw [lst_mk]; exact Sa.lies_iff.2 hs1
        have hw2 : Sa.lies (lst (mkS T)) (lst b) = true := by rw [lst_mk]; exact Sa.lies_iff.2 hs2
        have hTz : (mkS T).size ≤ 200 := by rw [mk_size, hz1]; exact hn200
        have hcv1 := HD.out.one.conv
        have htt : ((mkS T).toList == (mkS T).toList) = true := by simp
        rw [hz1]
        rw [hz1] at hcv1
        have HW1 := hid hw1
        have HW2 := hid hw2
        clear ht1 ht2 hs1 hs2 hT hz2 HR1 HR2 HLL HLM HL hw1 hw2
        go_wp2_with fail
        with_reducible refine (Within_ok (mkS T) a _ hTz ha).mono ?_
        rintro e w4 ⟨he, d4, rfl⟩
        rw [HW1.out] at he
        subst he
        clear hcv1
        have hcv2 := (HD.out.two.drewN d4).conv
        rw [hz1] at hcv2
        go_wp2_with fail
        with_reducible refine (Within_ok (mkS T) b _ hTz hb).mono ?_
        rintro e w5 ⟨he, d5, rfl⟩
        rw [HW2.out] at he
        subst he
        clear hcv2
        have O1 := (HD.out.one.drewN d4).drewN d5
        have O2 := (HD.out.two.drewN d4).drewN d5
        have HB6 : Hid (Below w.heap.size w ((wr.drewN d4).drewN d5)) := bl_drewN (bl_drewN (bl_then HB.out HD.out.below) d4) d5
        clear HD HB
        generalize (wr.drewN d4).drewN d5 = w6 at *
        go_wp2_with fail
        with_reducible refine (good_ok _ 2 _ _ (by decide) (two_zeros _ _)).mono ?_
        rintro e w8 ⟨rfl, rfl⟩
        have hcv1 := (O1.alloc (.cells #[.int .i64 0, .int .i64 0] 22)).conv
        have hcv2 := (O2.alloc (.cells #[.int .i64 0, .int .i64 0] 22)).conv
        have HB7 : Hid (Below w.heap.size w (w6.alloc (.cells #[.int .i64 0, .int .i64 0] 22))) := HB6.out.alloc HB6.out.size _
        rw [hz1] at hcv1 hcv2
        clear O1 O2 HB6 HW1 HW2
        generalize w6.alloc (.cells #[.int .i64 0, .int .i64 0] 22) = w7 at *
        by_cases hc200 : c.size ≤ 200
        · cases hp : Sa.lies (lst c) (lst a)
          · go_wp2_with fail
            with_reducible refine (Within_ok c a _ hc200 ha).mono ?_
            rintro e w9 ⟨he, d9, rfl⟩
            rw [hp] at he
            subst he
            clear hcv1 hcv2
            go_wp2_with fail
            with_reducible refine (Within_ok c b _ hc200 hb).mono ?_
            rintro e w10 ⟨rfl, d10, rfl⟩
            go_wp2
            go_ret
            exact ⟨rfl, bl_drewN HB7.out _⟩
          · cases hq : Sa.lies (lst c) (lst b)
            · go_wp2_with fail
              with_reducible refine (Within_ok c a _ hc200 ha).mono ?_
              rintro e w9 ⟨he, d9, rfl⟩
              rw [hp] at he
              subst he
              clear hcv1 hcv2
              go_wp2_with fail
              with_reducible refine (Within_ok c b _ hc200 hb).mono ?_
              rintro e w10 ⟨he, d10, rfl⟩
              rw [hq] at he
              subst he
              go_wp2
              go_ret
              exact ⟨rfl, bl_drewN HB7.out _⟩
            · have hcn : (c.size : Int) ≤ (k : Int) := by
                have h1 := Sa.lc_ub (lst a) (lst b) (lst c) (Sa.lies_iff.1 hp) (Sa.lies_iff.1 hq)
                rw [lst_len, ← HN.out] at h1
                omega
              go_wp2_with fail
              with_reducible refine (Within_ok c a _ hc200 ha).mono ?_
              rintro e w9 ⟨he, d9, rfl⟩
              rw [hp] at he
              subst he
              clear hcv1 hcv2
              go_wp2_with fail
              with_reducible refine (Within_ok c b _ hc200 hb).mono ?_
              rintro e w10 ⟨he, d10, rfl⟩
              rw [hq] at he
              subst he
              go_wp2
              go_ret
              exact ⟨rfl, bl_drewN HB7.out _⟩
        · go_wp2_with fail
          with_reducible refine (Within_large c a _ (.inl (by omega))).mono ?_
          rintro e w9 ⟨rfl, rfl⟩
          clear hcv1 hcv2
          go_wp2_with fail
          with_reducible refine (Within_large c b _ (.inl (by omega))).mono ?_
          rintro e w10 ⟨rfl, rfl⟩
          go_wp2
          go_ret
          exact ⟨rfl, HB7.out⟩
  · have h1 : 200 < a.size ∨ 200 < b.size := by omega
    clear h
    go_enter Try.func5, Try.ntmps5
    go_wp2_with fail
    with_reducible refine (sames_ok _).mono ?_
    rintro e w1 ⟨rfl, hb1⟩
    have HB := hid hb1
    clear hb1
    go_wp2_with fail
    with_reducible refine (Long_large a b _ h1).mono ?_
    rintro e w2 ⟨rfl, rfl⟩
    go_wp2_with fail
    with_reducible refine (Places_large a b _ h1).mono ?_
    rintro e w2 ⟨rfl, rfl⟩
    go_wp2
    go_ret
    exact ⟨rfl, HB.out⟩
end Go.Proofs.Ytjbpgeakjcmnaaa
