/-
The walk of quillkeep.CodeTwo: it returns true for every list of strings and whatever two lists of numbers.
-/
import Derived.Test.YtpjhmmoncbghdaaCodes
import Derived.Test.YtpjhmmoncbghdaaEqual
import Derived.Test.YtpjhmmoncbghdaaBuildK
namespace Go.Proofs.Ytpjhmmoncbghdaa
open Go.RowKit

/-- Which word a number names. -/
def ix (gm : Nat → Int) (n k : Nat) : Nat := (gm k % (n : Int)).toNat
theorem ix_lt (gm : Nat → Int) {n : Nat} (k : Nat) (h : 0 < n) : ix gm n k < n := by
  have h2 := Int.emod_nonneg (gm k) (show (n : Int) ≠ 0 by omega)
  have h3 := Int.emod_lt_of_pos (gm k) (show (0 : Int) < n by omega)
  unfold ix
  omega
/-- The words that i numbers name, and the numbers. -/
def rowW (g : Nat → ByteArray) (gm : Nat → Int) (n i : Nat) : List (List UInt8) := (List.range i).map fun k => wd (g (ix gm n k))
def rowN (gm : Nat → Int) (n i : Nat) : List Int := (List.range i).map fun k => (ix gm n k : Int)
theorem rowW_succ (g : Nat → ByteArray) (gm : Nat → Int) (n i : Nat) : (rowW g gm n (i + 1)).flatten = (rowW g gm n i).flatten ++ wd (g (ix gm n i)) := by unfold rowW; rw [List.range_succ, List.map_append, List.flatten_append]; simp
theorem rowN_succ (gm : Nat → Int) (n i : Nat) : rowN gm n (i + 1) = rowN gm n i ++ [(ix gm n i : Int)] := by unfold rowN; rw [List.range_succ, List.map_append]; rfl
theorem rowN_len (gm : Nat → Int) (n i : Nat) : (rowN gm n i).length = i := by unfold rowN; simp
theorem rowN_get {gm : Nat → Int} {n i k : Nat} (h : k < i) : (rowN gm n i).getD k 0 = (ix gm n k : Int) := by
  unfold rowN
  rw [List.getD_eq_getElem?_getD, List.getElem?_map, List.getElem?_range h]
  rfl
theorem flat_le {g : Nat → ByteArray} {gm : Nat → Int} {n : Nat} (h : ∀ k, k < n → (g k).size ≤ 12) (h0 : 0 < n) : ∀ i, (rowW g gm n i).flatten.length ≤ 12 * i
  | 0 => by simp [rowW]
  | i + 1 => by
    rw [rowW_succ, List.length_append, wd_len]
    have h1 := flat_le (gm := gm) h h0 i
    have h2 := h _ (ix_lt gm i h0)
    omega
theorem cells_str (l : List UInt8) (s : ByteArray) : Lib.byteCells l ++ Lib.strCells s = Lib.byteCells (l ++ wd s) := by
  unfold Lib.strCells Lib.byteCells
  rw [List.map_append]
  rfl
set_option maxHeartbeats 1000000 in
theorem one_any (Bl : Nat) (A Am : Option Addr) (n c m cm : Nat) (g : Nat → ByteArray) (gm : Nat → Int) (w : World) (hcl : w.cell? ⟨Bl, 0, none⟩ = some (.slice A n c)) (hrow : SRow w A n g) (hm : IRow w Am m gm) (h0 : 0 < n) (hn : n ≤ 12) (hz : ∀ k, k < n → (g k).size ≤ 12) (hm1 : m ≤ 10000) :
    Calls Try.prog 24 #[.slice Am m cm, .pointer (some ⟨Bl, 0, none⟩)] w fun e w' => ∃ A' c', e = .returned (.tuple #[.string ⟨(rowW g gm n m).flatten.toArray⟩, .slice A' m c']) ∧ IRow w' A' m (fun k => (ix gm n k : Int)) ∧ Below w.heap.size w w' := by
  have HCL := hid hcl
  have HRow := hid hrow
  have HMr := hid hm
  have HZ := hid hz
  have hBl : Bl < w.heap.size := World.block_lt_of_cell? _ _ hcl
  clear hcl hrow hm hz
  go_enter Try.func24, Try.ntmps24
  go_wp2
  obtain ⟨w0, hw0⟩ : ∃ w0, w0 = (w.alloc (.cells #[] 3)).alloc (.cells #[.pointer none, .slice none 0 0] 43) := ⟨_, rfl⟩
  have hb0 : Below w.heap.size w w0 := by rw [hw0]; exact bl_then (bl_new w _) (bl_new _ _)
  have hO0 : Hid (OwnI w0 w.heap.size (.slice (some ⟨w.heap.size, 0, none⟩) 0 0) (rowN gm n 0)) := by
    refine ⟨rfl, .inr ⟨w.heap.size, 0, #[], rfl, Nat.le_refl _, ?_, Nat.le_refl _, by unfold maxLen; omega, rfl, rfl⟩⟩
    rw [hw0]
    exact ((bl_new (w.alloc (.cells #[] 3)) _).block _ (by simp)).trans (heap_alloc_new w _)
  have hU0 : Hid (Lib.IsBuilderF 43 5 w.heap.size (w.heap.size + 1) (Lib.byteCells (rowW g gm n 0).flatten) w0) := by
    refine .inl ⟨by omega, .slice none 0 0, ?_, ⟨rfl, .inl ⟨rfl, rfl⟩⟩, by simp [Value.ownBlock]⟩
    rw [hw0]
    have h1 := heap_alloc_new (w.alloc (.cells #[] 3)) (.cells #[.pointer none, .slice none 0 0] 43)
    rw [show (w.alloc (.cells #[] 3)).heap.size = w.heap.size + 1 by simp] at h1
    exact h1
  rw [← hw0]
  have HB0 := hid hb0
  clear hw0 hb0
  go_loopw [6, 13] (fun v y wr => ∃ i : Nat, i ≤ m ∧ y = .int .i64 (i : Int) ∧ Hid (OwnI wr w.heap.size v (rowN gm n i)) ∧ Hid (Lib.IsBuilderF 43 5 w.heap.size (w.heap.size + 1) (Lib.byteCells (rowW g gm n i).flatten) wr) ∧ Hid (Below w.heap.size w wr)) (fun _ y _ => m - (intOf y).toNat)
  case atStart => exact ⟨0, by omega, rfl, hO0, hU0, HB0⟩
  case round =>
    clear hO0 hU0 HB0
    obtain ⟨i, hi, rfl, HO, HU, HB⟩ := hrel
    have hBw := HB.out.size
    by_cases hlt : i < m
    · have hlt' : (i : Int) < (m : Int) := by omega
      obtain ⟨bm, om, rfl, hbm, hcm0⟩ := HMr.out i hlt
      have hcm := (HB.out.cell (p := ⟨bm, om + i, none⟩) hbm).trans hcm0
      have hcl := (HB.out.cell (p := ⟨Bl, 0, none⟩) hBl).trans HCL.out
      clear hcm0
      have hW := within_any (gm i) n
      rw [show (gm i % (n : Int)).toNat = ix gm n i from rfl] at hW
      have hix := ix_lt gm i h0
      have hixz := HZ.out _ hix
      have HN2 := rowN_succ gm n i
      have HW2 := rowW_succ g gm n i
      have HFL := flat_le (g := g) (gm := gm) HZ.out h0 i
      replace HN2 := hid HN2
      replace HW2 := hid HW2
      replace HFL := hid HFL
      obtain ⟨r, hr⟩ : ∃ r, r = ix gm n i := ⟨_, rfl⟩
      rw [← hr] at hW hix hixz HN2 HW2
      clear hr
      go_wp2_with fail
      with_reducible refine (hW _ h0 (by omega)).mono ?_
      rintro e w2 ⟨rfl, rfl⟩
      clear hW
      obtain ⟨b, o, rfl, hbl, hcs0⟩ := HRow.out r hix
      have hcs := (HB.out.cell (p := ⟨b, o + r, none⟩) hbl).trans hcs0
      have hix' : (r : Int) < (n : Int) := by omega
      clear hcs0
      go_wp2_with fail
      with_reducible refine (build_writek w.heap.size (w.heap.size + 1) _ (g r) _ HU.out (by rw [Lib.byteCells_length]; have := HFL.out; omega) hBw).mono ?_
      rw [cells_str, ← HW2.out]
      rintro e w3 ⟨rfl, hU3, hb3, hk3⟩
      have hO3 := hid (HO.out.others hk3 (bld_block HU.out))
      have HU3 := hid hU3
      have HB3 := hid (HB.out.trans hb3)
      have hBw3 := HB3.out.size
      have hln : (rowN gm n i).length < 1000000 := by rw [rowN_len]; omega
      clear hU3 hb3 hk3 HO HU HB hcm hcl hcs
      go_wp2_with (at_builtin; with_reducible refine app_intg rfl _ _ rfl rfl hO3.out _ rfl rfl hBw3 hln ?_)
      intro v' w4 hown4 hb4 hg4
      rw [← HN2.out] at hown4
      have HO4 := hid hown4
      have HU4 := hid (bld_grown HU3.out hg4 hO3.out.block)
      have HB4 := hid (HB3.out.trans hb4)
      clear hown4 hb4 hg4 hO3 HU3 HB3 HN2 HW2 HFL
      go_wp2
      go_roundw
      case measure => simp [intOf]; omega
      case rel => exact ⟨i + 1, by omega, by go_num, HO4, HU4, HB4⟩
    · obtain rfl : m = i := by omega
      have hdl : decide ((m : Int) < (m : Int)) = false := decide_eq_false (by omega)
      go_wp2_with fail
      with_reducible refine (build_stringk w.heap.size (w.heap.size + 1) _ _ HU.out hBw).mono ?_
      rintro e w3 ⟨rfl, hb3, hk3⟩
      have hO3 := HO.out.others hk3 (bld_block HU.out)
      obtain ⟨A2, c2, rfl, hcap, hrow⟩ := OwnI.irowc hO3
      rw [rowN_len] at hrow hcap ⊢
      have HR : Hid (IRow w3 A2 m (fun k => (ix gm n k : Int))) := hrow.congr fun k hk => rowN_get hk
      have HB3 := hid (HB.out.trans hb3)
      clear hrow hb3 hk3 hO3 HO HU HB
      go_wp2
      go_ret2
      exact ⟨A2, c2, rfl, HR.out, HB3.out⟩
/-- Where two rows of words have one text, the numbers are the same. -/
theorem two_same {g : Nat → ByteArray} {ga gb : Nat → Int} {n p q : Nat} (h0 : 0 < n) (hu : Cm.UD (cws g n)) (hg : (cws g n).Nodup) (he : (rowW g ga n p).flatten = (rowW g gb n q).flatten) : eqB p q (fun k => (ix ga n k : Int)) (fun k => (ix gb n k : Int)) = true := by
  have hof : ∀ (gm : Nat → Int) (i : Nat), Cm.Of (cws g n) (rowW g gm n i) := by
    intro gm i x hx
    obtain ⟨k, _, rfl⟩ := List.mem_map.1 hx
    exact mem_cws.2 ⟨_, ix_lt gm k h0, rfl⟩
  have h1 := hu _ _ (hof ga p) (hof gb q) he
  have hpq : p = q := by
    have := congrArg List.length h1
    unfold rowW at this
    simpa using this
  subst hpq
  refine eqB_true.2 ⟨rfl, fun k hk => ?_⟩
  have h2 : wd (g (ix ga n k)) = wd (g (ix gb n k)) := by
    have := congrArg (fun l => l.getD k []) h1
    unfold rowW at this
    simp only [List.getD_eq_getElem?_getD, List.getElem?_map, List.getElem?_range hk, Option.map_some, Option.getD_some] at this
    exact this
  have ha := ix_lt ga k h0
  have hb := ix_lt gb k h0
  have h3 : (cws g n)[ix ga n k]'(by rw [cws_len]; exact ha) = (cws g n)[ix gb n k]'(by rw [cws_len]; exact hb) := by
    unfold cws
    simp only [List.getElem_map, List.getElem_range]
    exact h2
  have h4 := (List.nodup_iff_pairwise_ne.1 hg)
  have h5 := List.pairwise_iff_getElem.1 h4
  rcases Nat.lt_trichotomy (ix ga n k) (ix gb n k) with h | h | h
  · exact absurd h3 (h5 _ _ _ _ h)
  · show ((ix ga n k : Nat) : Int) = ((ix gb n k : Nat) : Int)
    rw [h]
  · exact absurd h3.symm (h5 _ _ _ _ h)
set_option maxHeartbeats 1000000 in
theorem codeTwo_walk (A : Option Addr) (n c : Nat) (g : Nat → ByteArray) (A1 : Option Addr) (n1 c1 : Nat) (g1 : Nat → Int) (A2 : Option Addr) (n2 c2 : Nat) (g2 : Nat → Int) (w : World) (h : SRow w A n g) (hc : n ≤ c) (hs : n * 16 ≤ 140737488351232) (h1 : IRow w A1 n1 g1) (_ : n1 ≤ c1) (hs1 : n1 * 8 ≤ 140737488351232) (h2 : IRow w A2 n2 g2) (_ : n2 ≤ c2) (hs2 : n2 * 8 ≤ 140737488351232) :
    Calls Try.prog 7 #[.slice A n c, .slice A1 n1 c1, .slice A2 n2 c2] w fun e w' => e = .returned (.bool true) ∧ Below w.heap.size w w' := by
  have hn : n ≤ maxLen := by unfold maxLen; omega
  go_enter Try.func7, Try.ntmps7
  go_wp2_with fail
  have hb0 := bl_new w (.cells #[.slice A n c] 22)
  have hcl0 : (w.alloc (.cells #[.slice A n c] 22)).cell? ⟨w.heap.size, 0, none⟩ = some (.slice A n c) := by simp
  have hlt0 : w.heap.size < (w.alloc (.cells #[.slice A n c] 22)).heap.size := by simp
  generalize w.alloc (.cells #[.slice A n c] 22) = w0 at hb0 hcl0 hlt0
  with_reducible refine (codes_ok _).mono ?_
  rintro e w1 ⟨rfl, hb1⟩
  have HB1 := hid (bl_then hb0 hb1)
  have H1 := hid (h.keep HB1.out)
  have hcl1 := (hb1.cell (p := ⟨w.heap.size, 0, none⟩) hlt0).trans hcl0
  clear h hb0 hb1 hcl0
  go_wp2_with fail
  with_reducible refine (Sole_any _ H1.out hc hn).mono ?_
  rintro e w2 ⟨⟨b, rfl, f2, z2⟩, hb2⟩
  have H2 := hid (H1.out.keep hb2)
  have hcl := (hb2.cell (p := ⟨w.heap.size, 0, none⟩) (World.block_lt_of_cell? _ _ hcl1)).trans hcl1
  have HB2 := hid (bl_then HB1.out hb2)
  have R1 := hid (h1.keep HB2.out)
  have R2 := hid (h2.keep HB2.out)
  clear hcl1 hb2 H1 HB1 h1 h2 hlt0
  by_cases he : Cm.cErr (cws g n) = 0
  · have HF := hid (f2 he)
    have HG := hid (Cm.cErr_zero.1 he)
    rw [he]
    clear f2 z2 he
    cases b with
    | false =>
      go_wp2
      go_ret
      exact ⟨rfl, HB2.out⟩
    | true =>
      have HU := hid (HF.out.1 rfl)
      have hn12 : n ≤ 12 := by have := HG.out.few; rw [cws_len] at this; exact this
      by_cases h0 : n = 0
      · subst h0
        go_wp2
        go_ret
        exact ⟨rfl, HB2.out⟩
      · have hnz : ((n : Int) == 0) = false := beq_eq_false_iff_ne.2 (by omega)
        obtain ⟨t, ht⟩ : ∃ t, t = n1 + n2 := ⟨_, rfl⟩
        have et : (n1 : Int) + (n2 : Int) = (t : Int) := by omega
        have etw : IntKind.i64.wrap (t : Int) = (t : Int) := IntWalk.i64_in _ (by omega)
        by_cases hbig : 10000 < t
        · have hbig' : (10000 : Int) < (t : Int) := by omega
          clear ht
          go_wp2
          go_ret
          exact ⟨rfl, HB2.out⟩
        · have hbig' : decide ((10000 : Int) < (t : Int)) = false := decide_eq_false (by omega)
          have hn1 : n1 ≤ 10000 := by omega
          have hn2 : n2 ≤ 10000 := by omega
          have HZ : Hid (∀ k, k < n → (g k).size ≤ 12) := fun k hk => by
            have := HG.out.short _ (mem_cws.2 ⟨k, hk, rfl⟩)
            rw [wd_len] at this
            exact this
          clear ht
          go_wp2_with fail
          with_reducible refine (one_any w.heap.size A A1 n c n1 c1 g g1 _ hcl H2.out R1.out (by omega) hn12 HZ.out hn1).mono ?_
          rintro e w3 ⟨A3, c3, rfl, hr3, hb3⟩
          have H3 := hid (H2.out.keep hb3)
          have Q3 := hid (R2.out.keep hb3)
          have hcl3 := (hb3.cell (p := ⟨w.heap.size, 0, none⟩) (World.block_lt_of_cell? _ _ hcl)).trans hcl
          have P3 := hid hr3
          have HB3 := hid (bl_then HB2.out hb3)
          clear hr3 hb3 H2 R1 R2 hcl HB2
          go_wp2_with fail
          with_reducible refine (one_any w.heap.size A A2 n c n2 c2 g g2 _ hcl3 H3.out Q3.out (by omega) hn12 HZ.out hn2).mono ?_
          rintro e w4 ⟨A4, c4, rfl, hr4, hb4⟩
          have P4 := hid (P3.out.keep hb4)
          have Q4 := hid hr4
          have HB4 := hid (bl_then HB3.out hb4)
          clear hr4 hb4 H3 Q3 hcl3 HB3 P3
          by_cases hsame : (rowW g g1 n n1).flatten = (rowW g g2 n n2).flatten
          · have hE := two_same (by omega) HU.out HG.out.nodup hsame
            rw [hsame]
            have hne : ((⟨(rowW g g2 n n2).flatten.toArray⟩ : ByteArray).toList != (⟨(rowW g g2 n n2).flatten.toArray⟩ : ByteArray).toList) = false := by simp
            generalize (⟨(rowW g g2 n n2).flatten.toArray⟩ : ByteArray) = X at hne
            have HE := hid hE
            clear hE hsame
            go_wp2_with fail
            with_reducible refine (equal_any P4.out Q4.out (by unfold maxLen; omega) (by unfold maxLen; omega)).mono ?_
            rw [HE.out]
            rintro e w5 ⟨rfl, hd⟩
            have HB5 := hid (HB4.out.trans (hd.below _))
            clear hd HB4
            go_wp2
            go_ret
            exact ⟨rfl, HB5.out⟩
          · have hne : ((⟨(rowW g g1 n n1).flatten.toArray⟩ : ByteArray).toList != (⟨(rowW g g2 n n2).flatten.toArray⟩ : ByteArray).toList) = true := by
              rw [bne_iff_ne, wd_toList, wd_toList, wd_mk, wd_mk]
              exact hsame
            have heq : ((⟨(rowW g g1 n n1).flatten.toArray⟩ : ByteArray).toList == (⟨(rowW g g2 n n2).flatten.toArray⟩ : ByteArray).toList) = false := by
              rw [beq_eq_false_iff_ne, wd_toList, wd_toList, wd_mk, wd_mk]
              exact hsame
            generalize (⟨(rowW g g1 n n1).flatten.toArray⟩ : ByteArray) = X at hne heq
            generalize (⟨(rowW g g2 n n2).flatten.toArray⟩ : ByteArray) = Y at hne heq
            clear hsame
            go_wp2
            go_ret
            exact ⟨rfl, HB4.out⟩
  · obtain rfl : b = false := z2 he
    have hne : (Cm.cErr (cws g n) != 0) = true := bne_iff_ne.2 he
    have heq : (Cm.cErr (cws g n) == 0) = false := beq_eq_false_iff_ne.2 he
    clear f2 z2 H2
    generalize Cm.cErr (cws g n) = er at he hne heq
    go_wp2
    go_ret
    exact ⟨rfl, HB2.out⟩
end Go.Proofs.Ytpjhmmoncbghdaa
