
/-
The walk of quilllaw.PackSays: it returns true for every list of strings, every list of numbers and every string. (Written by tools/mk_packsays.py.)
-/
import Derived.Test.YtmgkoliindicgaaPackGet
import Derived.Test.YtmgkoliindicgaaRefRows
import Derived.Test.YtmgkoliindicgaaRefCErr
import Derived.Test.YtmgkoliindicgaaRefFront
import Derived.Deep.Cut
import Derived.Deep.CutRange
namespace Go.Proofs.Ytmgkoliindicgaa
open Go.RowKit

theorem out_one1 (N : Nat) (x : Int) (A : Option Addr) (n c : Nat) (w : World) (hN : w.cell? ⟨N, 0, none⟩ = some (.slice A n c)) :
    Calls Try.prog 13 #[.int .i64 x, .pointer (some ⟨N, 0, none⟩)] w fun e w' => e = .returned (.bool (decide (x < 0) || decide ((n : Int) ≤ x))) ∧ w = w' := by
  by_cases h1 : x < 0
  · rw [decide_eq_true h1, Bool.true_or]
    go_enter Try.func13, Try.ntmps13
    go_wp2
    go_ret
    exact ⟨rfl, rfl⟩
  · have h1' : decide (x < 0) = false := decide_eq_false h1
    rw [h1', Bool.false_or]
    by_cases h2 : (n : Int) ≤ x
    · rw [decide_eq_true h2]
      go_enter Try.func13, Try.ntmps13
      go_wp2
      go_ret
      exact ⟨rfl, rfl⟩
    · have h2' : decide ((n : Int) ≤ x) = false := decide_eq_false h2
      rw [h2']
      go_enter Try.func13, Try.ntmps13
      go_wp2
      go_ret
      exact ⟨rfl, rfl⟩
theorem out_index1 {B : Option Addr} {m d : Nat} {gm : Nat → Int} (N : Nat) (A : Option Addr) (n c : Nat) (w : World) (hN : w.cell? ⟨N, 0, none⟩ = some (.slice A n c)) (h : IRow w B m gm) (hm : m ≤ 1000000) :
    Calls Try.prog 38 #[.slice B m d, .func (.func 13) #[] #[.pointer (some ⟨N, 0, none⟩)]] w fun e w' =>
      w = w' ∧ ((e = .returned (.int .i64 (-1)) ∧ inB gm n m = true) ∨ ∃ i : Nat, i < m ∧ e = .returned (.int .i64 (i : Int)) ∧ inB gm n m = false) := by
  have H := hid h
  have HN := hid hN
  clear h hN
  go_enter Try.func38, Try.ntmps38
  go_wp2
  go_loopw [8] (fun i wr => ∃ k : Nat, k ≤ m ∧ i = .int .i64 k ∧ Hid (∀ j, j < k → 0 ≤ gm j ∧ gm j < (n : Int)) ∧ wr = w) (fun i _ => m - (intOf i).toNat)
  case atStart => exact ⟨0, by omega, rfl, hid (fun j hj => by omega), rfl⟩
  case round =>
    obtain ⟨k, hk, rfl, HZ, rfl⟩ := hrel
    by_cases hkm : k < m
    · obtain ⟨b, o, rfl, _, hck⟩ := H.out k hkm
      have hkn : (k : Int) < (m : Int) := by omega
      obtain ⟨x, hx⟩ : ∃ x, x = gm k := ⟨_, rfl⟩
      have HX := hid hx
      rw [← hx] at hck
      clear hx
      go_wp2_with fail
      with_reducible refine (out_one1 N x A n c _ HN.out).mono ?_
      rintro e w1 ⟨rfl, rfl⟩
      cases hb : (decide (x < 0) || decide ((n : Int) ≤ x)) with
      | true =>
        have HL : Hid (inB gm n m = false) := by
          rw [Bool.or_eq_true, decide_eq_true_eq, decide_eq_true_eq, HX.out] at hb
          exact inB_no hkm hb
        clear hb
        go_wp2
        go_ret
        exact ⟨rfl, .inr ⟨k, hkm, rfl, HL.out⟩⟩
      | false =>
        have HL : Hid (0 ≤ x ∧ x < (n : Int)) := by
          rw [Bool.or_eq_false_iff, decide_eq_false_iff_not, decide_eq_false_iff_not] at hb
          exact ⟨by omega, by omega⟩
        clear hb
        go_wp2
        go_roundw
        case measure => simp [intOf]; omega
        case rel =>
          refine ⟨k + 1, by omega, by go_num, hid (fun j hj => ?_), by trivial⟩
          by_cases hjk : j < k
          · exact HZ.out j hjk
          · obtain rfl : j = k := by omega
            rw [← HX.out]
            exact HL.out
    · have hdl : decide ((k : Int) < (m : Int)) = false := decide_eq_false (by omega)
      obtain rfl : k = m := by omega
      go_wp2
      go_ret
      exact ⟨rfl, .inl ⟨rfl, inB_iff.2 HZ.out⟩⟩
theorem out_any1 {B : Option Addr} {m d : Nat} {gm : Nat → Int} (N : Nat) (A : Option Addr) (n c : Nat) (w : World) (hN : w.cell? ⟨N, 0, none⟩ = some (.slice A n c)) (h : IRow w B m gm) (hm : m ≤ 1000000) :
    Calls Try.prog 12 #[.slice B m d, .func (.func 13) #[] #[.pointer (some ⟨N, 0, none⟩)]] w fun e w' => e = .returned (.bool (!inB gm n m)) ∧ w = w' := by
  have H := hid h
  have HN := hid hN
  clear h hN
  go_enter Try.func12, Try.ntmps12
  go_wp2_with fail
  with_reducible refine (out_index1 N A n c _ HN.out H.out hm).mono ?_
  rintro e w1 ⟨rfl, hx⟩
  rcases hx with ⟨rfl, hx⟩ | ⟨i, hi, rfl, hx⟩
  · have HX := hid hx
    clear hx
    go_wp2
    go_ret
    rw [HX.out]
    exact ⟨rfl, rfl⟩
  · have HX := hid hx
    have hd : decide ((0 : Int) ≤ (i : Int)) = true := decide_eq_true (by omega)
    clear hx
    go_wp2
    go_ret
    rw [HX.out]
    exact ⟨rfl, rfl⟩
theorem out_one2 (N : Nat) (x : Int) (A : Option Addr) (n c : Nat) (w : World) (hN : w.cell? ⟨N, 0, none⟩ = some (.slice A n c)) :
    Calls Try.prog 17 #[.int .i64 x, .pointer (some ⟨N, 0, none⟩)] w fun e w' => e = .returned (.bool (decide (x < 0) || decide ((n : Int) ≤ x))) ∧ w = w' := by
  by_cases h1 : x < 0
  · rw [decide_eq_true h1, Bool.true_or]
    go_enter Try.func17, Try.ntmps17
    go_wp2
    go_ret
    exact ⟨rfl, rfl⟩
  · have h1' : decide (x < 0) = false := decide_eq_false h1
    rw [h1', Bool.false_or]
    by_cases h2 : (n : Int) ≤ x
    · rw [decide_eq_true h2]
      go_enter Try.func17, Try.ntmps17
      go_wp2
      go_ret
      exact ⟨rfl, rfl⟩
    · have h2' : decide ((n : Int) ≤ x) = false := decide_eq_false h2
      rw [h2']
      go_enter Try.func17, Try.ntmps17
      go_wp2
      go_ret
      exact ⟨rfl, rfl⟩
theorem out_index2 {B : Option Addr} {m d : Nat} {gm : Nat → Int} (N : Nat) (A : Option Addr) (n c : Nat) (w : World) (hN : w.cell? ⟨N, 0, none⟩ = some (.slice A n c)) (h : IRow w B m gm) (hm : m ≤ 1000000) :
    Calls Try.prog 38 #[.slice B m d, .func (.func 17) #[] #[.pointer (some ⟨N, 0, none⟩)]] w fun e w' =>
      w = w' ∧ ((e = .returned (.int .i64 (-1)) ∧ inB gm n m = true) ∨ ∃ i : Nat, i < m ∧ e = .returned (.int .i64 (i : Int)) ∧ inB gm n m = false) := by
  have H := hid h
  have HN := hid hN
  clear h hN
  go_enter Try.func38, Try.ntmps38
  go_wp2
  go_loopw [8] (fun i wr => ∃ k : Nat, k ≤ m ∧ i = .int .i64 k ∧ Hid (∀ j, j < k → 0 ≤ gm j ∧ gm j < (n : Int)) ∧ wr = w) (fun i _ => m - (intOf i).toNat)
  case atStart => exact ⟨0, by omega, rfl, hid (fun j hj => by omega), rfl⟩
  case round =>
    obtain ⟨k, hk, rfl, HZ, rfl⟩ := hrel
    by_cases hkm : k < m
    · obtain ⟨b, o, rfl, _, hck⟩ := H.out k hkm
      have hkn : (k : Int) < (m : Int) := by omega
      obtain ⟨x, hx⟩ : ∃ x, x = gm k := ⟨_, rfl⟩
      have HX := hid hx
      rw [← hx] at hck
      clear hx
      go_wp2_with fail
      with_reducible refine (out_one2 N x A n c _ HN.out).mono ?_
      rintro e w1 ⟨rfl, rfl⟩
      cases hb : (decide (x < 0) || decide ((n : Int) ≤ x)) with
      | true =>
        have HL : Hid (inB gm n m = false) := by
          rw [Bool.or_eq_true, decide_eq_true_eq, decide_eq_true_eq, HX.out] at hb
          exact inB_no hkm hb
        clear hb
        go_wp2
        go_ret
        exact ⟨rfl, .inr ⟨k, hkm, rfl, HL.out⟩⟩
      | false =>
        have HL : Hid (0 ≤ x ∧ x < (n : Int)) := by
          rw [Bool.or_eq_false_iff, decide_eq_false_iff_not, decide_eq_false_iff_not] at hb
          exact ⟨by omega, by omega⟩
        clear hb
        go_wp2
        go_roundw
        case measure => simp [intOf]; omega
        case rel =>
          refine ⟨k + 1, by omega, by go_num, hid (fun j hj => ?_), by trivial⟩
          by_cases hjk : j < k
          · exact HZ.out j hjk
          · obtain rfl : j = k := by omega
            rw [← HX.out]
            exact HL.out
    · have hdl : decide ((k : Int) < (m : Int)) = false := decide_eq_false (by omega)
      obtain rfl : k = m := by omega
      go_wp2
      go_ret
      exact ⟨rfl, .inl ⟨rfl, inB_iff.2 HZ.out⟩⟩
theorem out_any2 {B : Option Addr} {m d : Nat} {gm : Nat → Int} (N : Nat) (A : Option Addr) (n c : Nat) (w : World) (hN : w.cell? ⟨N, 0, none⟩ = some (.slice A n c)) (h : IRow w B m gm) (hm : m ≤ 1000000) :
    Calls Try.prog 12 #[.slice B m d, .func (.func 17) #[] #[.pointer (some ⟨N, 0, none⟩)]] w fun e w' => e = .returned (.bool (!inB gm n m)) ∧ w = w' := by
  have H := hid h
  have HN := hid hN
  clear h hN
  go_enter Try.func12, Try.ntmps12
  go_wp2_with fail
  with_reducible refine (out_index2 N A n c _ HN.out H.out hm).mono ?_
  rintro e w1 ⟨rfl, hx⟩
  rcases hx with ⟨rfl, hx⟩ | ⟨i, hi, rfl, hx⟩
  · have HX := hid hx
    clear hx
    go_wp2
    go_ret
    rw [HX.out]
    exact ⟨rfl, rfl⟩
  · have HX := hid hx
    have hd : decide ((0 : Int) ≤ (i : Int)) = true := decide_eq_true (by omega)
    clear hx
    go_wp2
    go_ret
    rw [HX.out]
    exact ⟨rfl, rfl⟩
theorem mt_empty : (⟨([] : List UInt8).toArray⟩ : ByteArray) = ⟨#[]⟩ := rfl
theorem cn_none {W : List (List UInt8)} (hg : Cm.Good W) {s : List UInt8} (h : ∀ x, Cm.Of W x → x.flatten ≠ s) : Cm.cn W s s.length = 0 := by
  rcases Nat.eq_zero_or_pos (Cm.cn W s s.length) with h0 | h0
  · exact h0
  · obtain ⟨x, hx, e⟩ := Cm.cn_pos hg.some_ s _ _ (Nat.le_refl _) (Nat.le_refl _) h0
    rw [List.take_length] at e
    exact absurd e (h x hx)
set_option maxHeartbeats 8000000 in
set_option maxRecDepth 100000 in
theorem packSays_walk (A : Option Addr) (n c : Nat) (g : Nat → ByteArray) (B : Option Addr) (m d : Nat) (gm : Nat → Int) (s : ByteArray) (w : World) (h : SRow w A n g) (hc : n ≤ c) (_ : n * 16 ≤ 140737488351232) (h2 : IRow w B m gm) (_ : m ≤ d) (hs2 : m * 8 ≤ 140737488351232) (_ : s.size ≤ 140737488351232) :
    Calls Try.prog 3 #[.slice A n c, .slice B m d, .string s] w fun e w' => e = .returned (.bool true) ∧ Below w.heap.size w w' := by
  have hb0 := bl_new w (.cells #[.slice A n c] 22)
  have hcell0 : (w.alloc (.cells #[.slice A n c] 22)).cell? ⟨w.heap.size, 0, none⟩ = some (.slice A n c) := by simp
  have hsz0 : w.heap.size < (w.alloc (.cells #[.slice A n c] 22)).heap.size := by simp
  have H0 := hid (h.keep hb0)
  have L0 := hid (h2.keep hb0)
  have HB0 := hid hb0
  clear h h2 hb0
  go_enter Try.func3, Try.ntmps3
  go_wp2_with fail
  obtain ⟨Bw, hBw⟩ : ∃ Bw, Bw = w.heap.size := ⟨_, rfl⟩
  rw [← hBw] at hcell0 hsz0
  rw [← hBw]
  generalize w.alloc (.cells #[.slice A n c] 22) = w0 at hcell0 hsz0 H0 L0 HB0 ⊢
  clear hBw
  with_reducible refine (Put_any _ H0.out hc L0.out).mono ?_
  rintro e w1 ⟨rfl, hb1⟩
  have hcell1 := (hb1.cell (p := ⟨Bw, 0, none⟩) hsz0).trans hcell0
  have hsz1 := Nat.lt_of_lt_of_le hsz0 hb1.size
  have H1 := hid (H0.out.keep hb1)
  have L1 := hid (L0.out.keep hb1)
  have HB1 := hid (bl_then HB0.out hb1)
  clear hb1 H0 L0 HB0 hcell0 hsz0
  go_wp2_with fail
  with_reducible refine (Get_any s _ H1.out hc).mono ?_
  rintro e w2 ⟨⟨A2, m2, c2, K, er, rfl, hc2, hl2, hr2, hget⟩, hb2⟩
  have hcell2 := (hb2.cell (p := ⟨Bw, 0, none⟩) hsz1).trans hcell1
  have hsz2 := Nat.lt_of_lt_of_le hsz1 hb2.size
  have H2 := hid (H1.out.keep hb2)
  have L2 := hid (L1.out.keep hb2)
  have R2 := hid hr2
  have HB2 := hid (bl_then HB1.out hb2)
  have HGet := hid hget
  clear hb2 hr2 hget H1 L1 HB1 hcell1 hsz1
  go_wp2_with fail
  with_reducible refine (Ways_any s _ H2.out hc).mono ?_
  rintro e w3 ⟨rfl, hb3⟩
  have hcell := (hb3.cell (p := ⟨Bw, 0, none⟩) hsz2).trans hcell2
  have hsz3 := Nat.lt_of_lt_of_le hsz2 hb3.size
  have H3 := hid (H2.out.keep hb3)
  have L3 := hid (L2.out.keep hb3)
  have R3 := hid (R2.out.keep hb3)
  have HB3 := hid (bl_then HB2.out hb3)
  clear hb3 H2 L2 R2 HB2 hcell2 hsz2
  go_wp2_with fail
  with_reducible refine (CodeErr_ok _ H3.out).mono ?_
  rintro e w4 ⟨rfl, rfl⟩
  by_cases hE : Cm.cErr (cws g n) = 0
  · have HG := hid (Cm.cErr_zero.1 hE)
    have HE := hid hE
    have hn12 := (good_few HG.out).1
    have hway : Hid (wayE g n s = (if 40 < s.size then 2 else 0)) := by show _ = _; unfold wayE; rw [if_neg (by simpa using hE)]
    rw [hE]
    clear hE
    obtain ⟨x, hx⟩ : ∃ x, x = putE g n gm m := ⟨_, rfl⟩
    obtain ⟨X, hX⟩ : ∃ X : ByteArray, X = ⟨(putT g n gm m).toArray⟩ := ⟨_, rfl⟩
    obtain ⟨y, hy⟩ : ∃ y, y = wayE g n s := ⟨_, rfl⟩
    obtain ⟨z, hz⟩ : ∃ z, z = wayN g n s := ⟨_, rfl⟩
    have HX := hid hx
    have HXs := hid hX
    have HY := hid hy
    have HZ := hid hz
    rw [← hx, ← hX, ← hy, ← hz]
    clear hx hX hy hz
    go_upto_if 65 with fail
    go_cut [14] from 15 (fun s14 wx => s14 = .int .i64 x ∧ w3 = wx)
    case first =>
      have hpe : Hid (x = if 200 < m then 2 else if inB gm n m = false then 1 else 0) := by show _ = _; rw [HX.out]; unfold putE; rw [if_neg (by simpa using HE.out)]
      by_cases hm : 200 < m
      · have hm' : (200 : Int) < (m : Int) := by omega
        go_wp2
        go_meet
        exact ⟨by rw [hpe.out, if_pos hm], rfl⟩
      · have hm' : decide ((200 : Int) < (m : Int)) = false := decide_eq_false (by omega)
        go_wp2_with fail
        with_reducible refine (out_any1 Bw A n c _ hcell L3.out (by omega)).mono ?_
        rintro e w5 ⟨rfl, rfl⟩
        have hpe2 := hpe.out
        rw [if_neg hm] at hpe2
        have HP2 := hid hpe2
        clear hpe hpe2
        cases hin : inB gm n m with
        | false =>
          have HI := hid hin
          clear hin
          go_wp2
          go_meet
          exact ⟨by rw [HP2.out, if_pos HI.out], rfl⟩
        | true =>
          have HI := hid hin
          clear hin
          go_wp2
          go_meet
          exact ⟨by rw [HP2.out, HI.out]; rfl, rfl⟩
    case rest =>
      obtain ⟨rfl, rfl⟩ := hcut
      go_upto_region 12 with fail
      go_cut [90] from 15 (fun s90 wx => s90 = .bool false ∧ Hid (Below w3.heap.size w3 wx))
      case first =>
        have hxx : (x != x) = false := by simp
        by_cases hx : x = 0
        · have hx0 := HX.out
          rw [hx] at hx0
          obtain ⟨_, hm200, hin⟩ := putE_zero.1 hx0.symm
          have hT : X = ⟨(tx g gm m).toArray⟩ := by rw [HXs.out]; unfold putT; rw [if_pos hx0.symm]
          have hne : (X.toList != X.toList) = false := by simp
          have hx1 : (x != 0) = false := bne_eq_false_iff_eq.2 hx
          have hx2 : (x == 0) = true := beq_iff_eq.2 hx
          have hJ := fun W h1 h2 => joined_any (c := c) (d := d) W (h1 : SRow W A n g) (h2 : IRow W B m gm) (good_few HG.out).2 (by omega) hin
          rw [← hT] at hJ
          clear hx hT hx0 hin
          go_wp2_with fail
          with_reducible refine (hJ _ H3.out L3.out).mono ?_
          rintro e w5 ⟨rfl, hb5⟩
          have HB5 := hid hb5
          clear hb5 hJ
          go_wp2
          go_meet
          exact ⟨rfl, HB5⟩
        · have hT : X.toList.isEmpty = true := no_bytes (by
            rw [HXs.out]
            unfold putT
            rw [if_neg (by rw [← HX.out]; exact hx)]
            rfl)
          have hx1 : (x != 0) = true := bne_iff_ne.2 hx
          have hx2 : (x == 0) = false := beq_eq_false_iff_ne.2 hx
          go_wp2
          go_meet
          exact ⟨rfl, Below.refl _ _⟩
      case rest =>
        obtain ⟨rfl, HB4⟩ := hcut
        have hcell4 := (HB4.out.cell (p := ⟨Bw, 0, none⟩) hsz3).trans hcell
        have H4 := hid (H3.out.keep HB4.out)
        have R4 := hid (R3.out.keep HB4.out)
        have HBw := hid (bl_then HB3.out HB4.out)
        have hsz4 := Nat.lt_of_lt_of_le hsz3 HB4.out.size
        clear hcell H3 L3 R3 HB3 HB4 hsz3
        go_upto_if 93 with fail
        go_cut [] from 15 (fun wx => Hid (Below wc.heap.size wc wx))
        case first =>
          by_cases hs40 : 40 < s.size
          · have hs' : (40 : Int) < (s.size : Int) := by omega
            have e1 : y = 2 := by rw [HY.out, hway.out, if_pos hs40]
            have e2 : z = 0 := by rw [HZ.out]; unfold wayN; rw [← HY.out, e1, if_neg (by decide)]
            have f1 : (y != 2) = false := bne_eq_false_iff_eq.2 e1
            have f2 : ((z : Int) != 0) = false := bne_eq_false_iff_eq.2 (by omega)
            clear e1 e2
            go_wp2
            go_meet
            exact Below.refl _ _
          · have hs' : decide ((40 : Int) < (s.size : Int)) = false := decide_eq_false (by omega)
            have e1 : y = 0 := by rw [HY.out, hway.out, if_neg hs40]
            have e2 : z = Cm.cn (cws g n) (wd s) s.size := by rw [HZ.out]; unfold wayN; rw [← HY.out, e1, if_pos rfl]
            have f1 : (y != 0) = false := bne_eq_false_iff_eq.2 e1
            have f2 : ((z : Int) != (z : Int)) = false := by simp
            have hR := RowsOf_ok (c := c) s _ H4.out HG.out (by omega) (cn_bound HG.out (by rw [wd_len]; omega))
            rw [← e2] at hR
            clear e1 e2
            go_wp2_with fail
            with_reducible refine hR.mono ?_
            rintro e w5 ⟨rfl, hb5⟩
            have HB5 := hid hb5
            clear hb5 hR
            go_wp2
            go_meet
            exact HB5
        case rest =>
          have hcell5 := (hcut.out.cell (p := ⟨Bw, 0, none⟩) hsz4).trans hcell4
          have hsz5 := Nat.lt_of_lt_of_le hsz4 hcut.out.size
          have H5 := hid (H4.out.keep hcut.out)
          have R5 := hid (R4.out.keep hcut.out)
          have HB5 := hid (bl_then HBw.out hcut.out)
          clear hcut hcell4 hsz4 H4 R4 HBw
          go_wp2_with fail
          with_reducible refine (FrontCode_ok _ H5.out HG.out).mono ?_
          rintro e w6 ⟨⟨b, rfl, hb⟩, hb6⟩
          have hcell6 := (hb6.cell (p := ⟨Bw, 0, none⟩) hsz5).trans hcell5
          have hsz6 := Nat.lt_of_lt_of_le hsz5 hb6.size
          have H6 := hid (H5.out.keep hb6)
          have R6 := hid (R5.out.keep hb6)
          have HB6 := hid (bl_then HB5.out hb6)
          have hget := HGet.out
          clear hb6 hcell5 hsz5 H5 R5 HB5 HGet
          rcases hget with ⟨h1, _⟩ | ⟨_, h1, rfl, rfl⟩ | ⟨_, h1, h2, rfl, rfl⟩ | ⟨_, h1, h2, rfl, rfl, h3⟩ | ⟨_, h1, h2, rfl, h3, h4⟩
          · exact absurd HE.out h1
          · obtain rfl : b = false := by
              cases b with
              | false => rfl
              | true => exact absurd (hb.1 rfl) h1
            clear hb h1
            go_wp2
            go_ret
            exact ⟨rfl, HB6.out⟩
          · obtain rfl : b = true := hb.2 h1
            have h2' : (4096 : Int) < (s.size : Int) := by omega
            clear hb h1
            go_wp2
            go_ret
            exact ⟨rfl, HB6.out⟩
          · obtain rfl : b = true := hb.2 h1
            have h2' : decide ((4096 : Int) < (s.size : Int)) = false := decide_eq_false (by omega)
            have hs0 : s.size ≠ 0 := fun h0 => h3 [] (Cm.Of.nil _) (by
              have h5 : wd s = [] := List.length_eq_zero_iff.1 (by rw [wd_len]; exact h0)
              rw [h5]; rfl)
            have hnb := some_bytes (s := s) (by omega)
            have hR := RowsOf_ok (c := c) s w6 H6.out HG.out (by omega) (fun k hk => Nat.le_trans (Cm.cn_ud HG.out (h1.ud HG.out.some_) _ _ _ (Nat.le_refl _) hk) (by decide))
            have h5 := cn_none HG.out h3
            rw [wd_len] at h5
            rw [h5] at hR
            clear hb h1 h3 h5
            go_wp2_with fail
            with_reducible refine hR.mono ?_
            rintro e w7 ⟨rfl, hb7⟩
            have HB7 := hid (bl_then HB6.out hb7)
            clear hb7 hR
            go_wp2
            go_ret
            exact ⟨rfl, HB7.out⟩
          · obtain rfl : b = true := hb.2 h1
            have h2' : decide ((4096 : Int) < (s.size : Int)) = false := decide_eq_false (by omega)
            have hin : ∀ k, k < m2 → 0 ≤ ((K k : Nat) : Int) ∧ ((K k : Nat) : Int) < (n : Int) := fun k hk => by have := h3 k hk; omega
            have hinB : inB (fun k => ((K k : Nat) : Int)) n m2 = true := inB_iff.2 hin
            have hC := out_any2 (d := c2) Bw A n c w6 hcell6 R6.out (by omega)
            rw [hinB] at hC
            have hJ := joined_any (c := c) (d := c2) w6 H6.out R6.out (good_few HG.out).2 (by omega) hin
            rw [show (⟨(tx g (fun k => ((K k : Nat) : Int)) m2).toArray⟩ : ByteArray) = s from wd_inj (by rw [wd_mk]; exact h4)] at hJ
            have hse : (s.toList == s.toList) = true := by simp
            by_cases h0 : s.size = 0
            · have hnb := no_bytes h0
              clear hb h1 h3 h4 hin hinB
              go_wp2_with fail
              with_reducible refine hC.mono ?_
              rintro e w7 ⟨rfl, rfl⟩
              clear hC
              go_wp2_with fail
              with_reducible refine hJ.mono ?_
              rintro e w8 ⟨rfl, hb8⟩
              have HB8 := hid (bl_then HB6.out hb8)
              clear hb8 hJ
              go_wp2
              go_ret
              exact ⟨rfl, HB8.out⟩
            · have hnb := some_bytes (s := s) (by omega)
              have hm0 : m2 ≠ 0 := fun e => by
                subst e
                have h5 := congrArg List.length h4
                rw [wd_len] at h5
                exact h0 h5.symm
              have hm0' : ((m2 : Int) == 0) = false := beq_eq_false_iff_ne.2 (by omega)
              clear hb h1 h3 h4 hin hinB hm0
              go_wp2_with fail
              with_reducible refine hC.mono ?_
              rintro e w7 ⟨rfl, rfl⟩
              clear hC
              go_wp2_with fail
              with_reducible refine hJ.mono ?_
              rintro e w8 ⟨rfl, hb8⟩
              have HB8 := hid (bl_then HB6.out hb8)
              clear hb8 hJ
              go_wp2
              go_ret
              exact ⟨rfl, HB8.out⟩
  · have hE' : (Cm.cErr (cws g n) != 0) = true := bne_iff_ne.2 hE
    have hee : (Cm.cErr (cws g n) == Cm.cErr (cws g n)) = true := by simp
    have e1 : putE g n gm m = Cm.cErr (cws g n) := by unfold putE; rw [if_pos hE]
    have e2 : putT g n gm m = [] := by unfold putT; rw [e1, if_neg hE]
    have e3 : wayE g n s = Cm.cErr (cws g n) := by unfold wayE; rw [if_pos hE]
    have e4 : wayN g n s = 0 := by unfold wayN; rw [e3, if_neg hE]
    obtain ⟨e5, e6⟩ : er = Cm.cErr (cws g n) ∧ m2 = 0 := by
      rcases HGet.out with ⟨_, h2, h3⟩ | ⟨h1, _⟩ | ⟨h1, _⟩ | ⟨h1, _⟩ | ⟨h1, _⟩
      · exact ⟨h2, h3⟩
      · exact absurd h1 hE
      · exact absurd h1 hE
      · exact absurd h1 hE
      · exact absurd h1 hE
    subst e5; subst e6
    rw [e1, e2, e3, e4, mt_empty]
    clear e1 e2 e3 e4 HGet R3
    generalize Cm.cErr (cws g n) = E at hE hE' hee
    go_wp2
    go_ret
    exact ⟨rfl, HB3.out⟩
end Go.Proofs.Ytmgkoliindicgaa
