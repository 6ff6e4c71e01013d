
/-
The walk of quillkeep.PackBack: it returns true for whatever two lists of numbers.
-/
import Derived.Test.YtmgkoliindicgaaPacks
import Derived.Test.YtmgkoliindicgaaPackGet
import Derived.Test.YtmgkoliindicgaaPackIdx
import Derived.Test.YtmgkoliindicgaaTrees
namespace Go.Proofs.Ytmgkoliindicgaa
open Go.RowKit

set_option maxHeartbeats 2000000 in
theorem packBack_walk (A : Option Addr) (n c : Nat) (g : Nat → Int) (B : Option Addr) (m d : Nat) (gm : Nat → Int) (w : World) (h : IRow w A n g) (hc : n ≤ c) (hs : n * 8 ≤ 140737488351232) (h2 : IRow w B m gm) (hd : m ≤ d) (hs2 : m * 8 ≤ 140737488351232) :
    Calls Try.prog 4 #[.slice A n c, .slice B m d] w fun e w' => e = .returned (.bool true) ∧ Below w.heap.size w w' := by
  have H := hid h
  have HM := hid h2
  clear h h2
  go_enter Try.func4, Try.ntmps4
  go_wp2_with fail
  with_reducible refine (packs_ok _).mono ?_
  rintro e w1 ⟨rfl, hb1⟩
  go_wp2_with fail
  with_reducible refine (trees_ok _).mono ?_
  rintro e w2 ⟨rfl, hb2⟩
  have HB2 := hid (bl_then hb1 hb2)
  have H2 := hid (H.out.keep HB2.out)
  have HM2 := hid (HM.out.keep HB2.out)
  clear hb1 hb2 H HM
  go_wp2_with fail
  with_reducible refine (TMake_any _ H2.out hc).mono ?_
  rintro e w3 ⟨⟨A3, m3, c3, rfl, hc3, hr3, z3, f3⟩, hb3⟩
  have HB3 := hid (bl_then HB2.out hb3)
  have HM3 := hid (HM2.out.keep hb3)
  clear hb3 H2 HM2 HB2
  by_cases hE : Hm.wErr g n = 0
  · obtain rfl : m3 = n := f3 hE
    by_cases h0 : m3 = 0
    · subst h0
      rw [hE]
      clear z3 f3 hE hr3
      go_wp2
      go_ret
      exact ⟨rfl, HB3.out⟩
    · have hn12 := (Hm.wErr_zero.1 hE).1
      have HR : Hid (SRow w3 A3 m3 (tmW g m3)) := hr3
      have HGd := hid (tmW_good hE)
      have hnz : ((m3 : Int) == 0) = false := beq_eq_false_iff_ne.2 (by omega)
      have hpos : 0 < m3 := by omega
      rw [hE]
      obtain ⟨q, hq⟩ : ∃ q, q = min m 200 := ⟨_, rfl⟩
      have eq1 : min (m : Int) (200 : Int) = (q : Int) := by omega
      have eq2 : (q : Int) ≤ (d : Int) := by omega
      have hqm : q ≤ m := by omega
      have hq2 : q ≤ 200 := by omega
      clear z3 f3 hr3 h0 hE hq
      go_wp2
      go_loopw [7, 50] (fun x y wr => ∃ (v : Value) (i : Nat), v = x ∧ i ≤ q ∧ y = .int .i64 (i : Int) ∧ Hid (OwnI wr w3.heap.size v (rowN' (wi gm m3) i)) ∧ Hid (Below w3.heap.size w3 wr)) (fun _ y _ => q - (intOf y).toNat)
      case atStart => exact ⟨_, 0, rfl, by omega, rfl, OwnI.zero _ _, Below.refl _ _⟩
      case round =>
        obtain ⟨v, i, rfl, hi, rfl, HO, HB⟩ := hrel
        have hsz := HB.out.size
        by_cases hlt : i < q
        · have hlt' : (i : Int) < (q : Int) := by omega
          obtain ⟨b, o, rfl, hbl, hc0⟩ := HM3.out i (by omega)
          have hci := (HB.out.cell (p := ⟨b, o + i, none⟩) hbl).trans hc0
          have hW := within_any (gm i) m3
          have hwi := wi_in gm hpos i
          have HS := hid (rowN'_succ (wi gm m3) i)
          have hln : (rowN' (wi gm m3) i).length < 1000000 := by rw [rowN'_len]; omega
          obtain ⟨r, hr⟩ : ∃ r, r = (gm i % (m3 : Int)).toNat := ⟨_, rfl⟩
          have hwr : wi gm m3 i = (r : Int) := by unfold wi at hwi ⊢; omega
          rw [← hr] at hW
          rw [hwr] at HS
          clear hc0 hr hwi hwr
          go_wp2_with fail
          with_reducible refine (hW _ hpos (by omega)).mono ?_
          rintro e w4 ⟨rfl, rfl⟩
          clear hW
          go_wp2_with (at_builtin; with_reducible refine app_int rfl _ _ rfl rfl HO.out _ rfl rfl hsz hln ?_)
          intro v' w5 hown5 hb5
          rw [← HS.out] at hown5
          have HO5 := hid hown5
          have HB5 := hid (HB.out.trans hb5)
          clear hown5 hb5 HO HB HS
          go_wp2
          go_roundw
          case measure => simp [intOf]; omega
          case rel => exact ⟨v', i + 1, rfl, by omega, by go_num, HO5, HB5⟩
        · obtain rfl : q = i := by omega
          have hdl : decide ((q : Int) < (q : Int)) = false := decide_eq_false (by omega)
          obtain ⟨A5, c5, rfl, hc5, hr5⟩ := HO.out.irow2
          have R5 := hid hr5
          have W5 := hid (HR.out.keep HB.out)
          have HB5 := hid (bl_then HB3.out HB.out)
          have hin : ∀ k, k < q → 0 ≤ wi gm m3 k ∧ wi gm m3 k < (m3 : Int) := fun k _ => wi_in gm hpos k
          have hP0 : putE (tmW g m3) m3 (wi gm m3) q = 0 := putE_zero.2 ⟨Cm.cErr_zero.2 HGd.out.1, hq2, hin⟩
          have hPT : putT (tmW g m3) m3 (wi gm m3) q = tx (tmW g m3) (wi gm m3) q := by unfold putT; rw [if_pos hP0]
          have HI := hid hin
          have hPut := fun W (h1 : SRow W A3 m3 (tmW g m3)) (h2 : IRow W A5 q (wi gm m3)) => Put_any (c := c3) (d := c5) W h1 hc3 h2
          unfold PutPost at hPut
          rw [hP0, hPT] at hPut
          have HLe : (tx (tmW g m3) (wi gm m3) q).length ≤ 12 * q := tx_le (good_few HGd.out.1).2 hin
          clear hr5 HO HR hP0 hPT HM3 HB3 hin
          go_wp2_with fail
          with_reducible refine (hPut _ W5.out R5.out).mono ?_
          rintro e w6 ⟨rfl, hb6⟩
          have W6 := hid (W5.out.keep hb6)
          have R6 := hid (R5.out.keep hb6)
          have HB6 := hid (bl_then HB5.out hb6)
          clear hPut hb6 W5 R5 HB5
          obtain ⟨s, hsd⟩ : ∃ s : ByteArray, s = ⟨(tx (tmW g m3) (wi gm m3) q).toArray⟩ := ⟨_, rfl⟩
          have hsw : wd s = tx (tmW g m3) (wi gm m3) q := by rw [hsd, wd_mk]
          have hsz2 : s.size ≤ 4096 := by rw [← wd_len, hsw]; omega
          rw [← hsd]
          clear hsd HLe
          go_wp2_with fail
          with_reducible refine (Get_any s _ W6.out hc3).mono ?_
          rintro e w7 ⟨⟨A7, m7, c7, L, er, rfl, hc7, hl7, hr7, hget⟩, hb7⟩
          have hcE := Cm.cErr_zero.2 HGd.out.1
          have hfin : er = 0 ∧ m7 = q ∧ ∀ k, k < m7 → ((L k : Nat) : Int) = wi gm m3 k := by
            rcases hget with ⟨h1, _⟩ | ⟨_, h1, _⟩ | ⟨_, _, h1, _⟩ | ⟨_, _, _, _, _, h1⟩ | ⟨_, _, _, h1, h3, h4⟩
            · exact absurd hcE h1
            · exact absurd HGd.out.2 h1
            · omega
            · exact absurd hsw.symm (h1 _ (txW_of HI.out))
            · have := idx_same (HGd.out.2.ud HGd.out.1.some_) HGd.out.1.nodup (ga := fun k => ((L k : Nat) : Int)) (fun k hk => by have := h3 k hk; omega) HI.out (h4.trans hsw)
              exact ⟨h1, this⟩
          obtain ⟨rfl, rfl, hsame⟩ := hfin
          have R7 : Hid (IRow w7 A7 m7 (wi gm m3)) := hr7.congr hsame
          have Q7 := hid (R6.out.keep hb7)
          have HB7 := hid (bl_then HB6.out hb7)
          clear hr7 hget hb7 hcE hsame hsw W6 R6 HB6 HI
          have hb8 := bl_new w7 (.cells #[.int .i64 0, .int .i64 0] 24)
          have R8 := hid (R7.out.keep hb8)
          have Q8 := hid (Q7.out.keep hb8)
          have HB8 := hid (bl_then HB7.out hb8)
          clear hb8 R7 Q7 HB7
          go_wp2_with fail
          with_reducible refine (good_ok _ 2 _ _ (by decide) (two_zeros _ _)).mono ?_
          rintro e w9 ⟨rfl, rfl⟩
          go_wp2_with fail
          with_reducible refine (equal_any Q8.out R8.out (by unfold maxLen; omega) (by unfold maxLen; omega)).mono ?_
          rw [eqB_true.2 ⟨rfl, fun k _ => rfl⟩]
          rintro e w10 ⟨rfl, hdd⟩
          have HB10 := hid (HB8.out.trans (hdd.below _))
          clear hdd HB8 Q8 R8
          go_wp2
          go_ret
          exact ⟨rfl, HB10.out⟩
  · obtain rfl : m3 = 0 := z3 hE
    have hE' : (Hm.wErr g n != 0) = true := bne_iff_ne.2 hE
    clear z3 f3 hr3
    generalize Hm.wErr g n = E at hE hE'
    go_wp2
    go_ret
    exact ⟨rfl, HB3.out⟩
end Go.Proofs.Ytmgkoliindicgaa
