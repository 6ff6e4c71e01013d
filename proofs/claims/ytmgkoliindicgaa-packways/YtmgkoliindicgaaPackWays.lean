
/-
The walk of quillkeep.PackWays: it returns true for every list of strings and whatever two strings.
-/
import Derived.Test.YtmgkoliindicgaaPackWay
import Derived.Test.YtmgkoliindicgaaCodes
namespace Go.Proofs.Ytmgkoliindicgaa
open Go.RowKit

def exZ : List ByteArray := [⟨#[48]⟩, ⟨#[48, 48]⟩]
theorem exZ_e : wayE (exG exZ) 2 ⟨#[48, 48, 48]⟩ = 0 := by decide +kernel
theorem exZ_n : wayN (exG exZ) 2 ⟨#[48, 48, 48]⟩ = 3 := by decide +kernel
/-- What the three numbers are. -/
theorem ways_three {g : Nat → ByteArray} {n : Nat} (hg : Cm.Good (cws g n)) {x y : ByteArray} (hx : x.size ≤ 20) (hy : y.size ≤ 20) :
    wayE g n x = 0 ∧ wayE g n y = 0 ∧ wayE g n (x ++ y) = 0 ∧ wayN g n x ≤ 1048576 ∧ wayN g n y ≤ 1048576 ∧ wayN g n (x ++ y) ≤ 1099511627776 ∧ wayN g n x * wayN g n y ≤ wayN g n (x ++ y) ∧
    (Cm.UD (cws g n) → wayN g n x ≤ 1 ∧ wayN g n y ≤ 1 ∧ wayN g n (x ++ y) ≤ 1) := by
  have hE := Cm.cErr_zero.2 hg
  have key : ∀ z : ByteArray, z.size ≤ 40 → wayE g n z = 0 ∧ wayN g n z = Cm.cn (cws g n) (wd z) z.size := fun z hz => by
    have h1 : wayE g n z = 0 := by unfold wayE; rw [if_neg (by simpa using hE), if_neg (by omega)]
    refine ⟨h1, ?_⟩
    unfold wayN
    rw [if_pos h1]
  have hxy : (x ++ y).size = x.size + y.size := size_app x y
  obtain ⟨e1, n1⟩ := key x (by omega)
  obtain ⟨e2, n2⟩ := key y (by omega)
  obtain ⟨e3, n3⟩ := key (x ++ y) (by omega)
  rw [n1, n2, n3]
  have up : ∀ z : ByteArray, ∀ k, z.size ≤ k → Cm.cn (cws g n) (wd z) z.size ≤ 2 ^ k := fun z k hk => Nat.le_trans (Cm.cn_le hg _ _ _ (Nat.le_refl _)) (Nat.pow_le_pow_right (by decide) hk)
  refine ⟨e1, e2, e3, up x 20 hx, up y 20 hy, up (x ++ y) 40 (by omega), ?_, fun hu => ⟨?_, ?_, ?_⟩⟩
  · have := Cm.cn_prod hg.some_ (wd x) (wd y) y.size y.size (Nat.le_refl _) (by rw [wd_len]; exact Nat.le_refl _)
    rw [wd_len] at this
    rw [wd_app, hxy]
    exact this
  · exact Cm.cn_ud hg hu _ _ _ (Nat.le_refl _) (by rw [wd_len]; exact Nat.le_refl _)
  · exact Cm.cn_ud hg hu _ _ _ (Nat.le_refl _) (by rw [wd_len]; exact Nat.le_refl _)
  · exact Cm.cn_ud hg hu _ _ _ (Nat.le_refl _) (by rw [wd_len]; exact Nat.le_refl _)
set_option maxHeartbeats 2000000 in
theorem packWays_walk (A : Option Addr) (n c : Nat) (g : Nat → ByteArray) (s t : ByteArray) (w : World) (h : SRow w A n g) (hc : n ≤ c) (hs : n * 16 ≤ 140737488351232) (_ : s.size ≤ 140737488351232) (_ : t.size ≤ 140737488351232) :
    Calls Try.prog 5 #[.slice A n c, .string s, .string t] w fun e w' => e = .returned (.bool true) ∧ Below w.heap.size w w' := by
  have hn : n ≤ maxLen := by unfold maxLen; omega
  have hb0 := bl_new w (.cells #[.string ⟨#[48]⟩, .string ⟨#[48, 48]⟩] 9)
  have hS : SRow (w.alloc (.cells #[.string ⟨#[48]⟩, .string ⟨#[48, 48]⟩] 9)) (some ⟨w.heap.size, 0, none⟩) 2 (exG exZ) := SRow.lits w exZ 9 2 _ rfl rfl
  have hW := Ways_any (c := 2) ⟨#[48, 48, 48]⟩ _ hS (by decide)
  obtain ⟨hx, _⟩ := cutS_size s 20
  obtain ⟨hy, _⟩ := cutS_size t 20
  have hcs := fun W => cut_any s 20 W (by decide)
  have hct := fun W => cut_any t 20 W (by decide)
  have H := hid h
  have HB0 := hid hb0
  clear h hS hb0
  go_enter Try.func5, Try.ntmps5
  go_wp2_with fail
  refine hW.mono ?_
  rintro e w1 ⟨rfl, hb1⟩
  rw [exZ_e, exZ_n]
  have HB1 := hid (bl_then HB0.out hb1)
  clear hW hb1 HB0
  go_wp2_with fail
  with_reducible refine (codes_ok _).mono ?_
  rintro e w2 ⟨rfl, hb2⟩
  have HB2 := hid (bl_then HB1.out hb2)
  have H2 := hid (H.out.keep HB2.out)
  clear hb2 HB1 H
  go_wp2_with fail
  refine (hcs _).mono ?_
  rintro e w3 ⟨rfl, rfl⟩
  go_wp2_with fail
  refine (hct _).mono ?_
  rintro e w4 ⟨rfl, rfl⟩
  generalize cutS s 20 = x at hx ⊢
  generalize cutS t 20 = y at hy ⊢
  clear hcs hct
  go_wp2_with fail
  with_reducible refine (Sole_any _ H2.out hc hn).mono ?_
  rintro e w5 ⟨⟨b, rfl, f5, z5⟩, hb5⟩
  have H5 := hid (H2.out.keep hb5)
  have HB5 := hid (bl_then HB2.out hb5)
  clear hb5 H2 HB2
  go_wp2_with fail
  with_reducible refine (Ways_any x _ H5.out hc).mono ?_
  rintro e w6 ⟨rfl, hb6⟩
  have H6 := hid (H5.out.keep hb6)
  have HB6 := hid (bl_then HB5.out hb6)
  clear hb6 H5 HB5
  go_wp2_with fail
  with_reducible refine (Ways_any y _ H6.out hc).mono ?_
  rintro e w7 ⟨rfl, hb7⟩
  have H7 := hid (H6.out.keep hb7)
  have HB7 := hid (bl_then HB6.out hb7)
  clear hb7 H6 HB6
  have hadd := fun W : World => run_string_add_sum (P := Try.prog) W x y (by omega)
  obtain ⟨xy, hxy⟩ : ∃ xy, xy = x ++ y := ⟨_, rfl⟩
  go_wp2_with fail
  with_reducible refine (Ways_any (x ++ y) _ H7.out hc).mono ?_
  rw [← hxy]
  rintro e w8 ⟨rfl, hb8⟩
  have HB8 := hid (bl_then HB7.out hb8)
  clear hb8 H7 HB7 hadd
  by_cases hE : Cm.cErr (cws g n) = 0
  · obtain ⟨q1, q2, q3, q4, q5, q6, q7, q8⟩ := ways_three (Cm.cErr_zero.1 hE) hx hy
    rw [← hxy] at q3 q6 q7 q8
    rw [hE, q1, q2, q3]
    have HU : Hid (b = true → wayN g n x ≤ 1 ∧ wayN g n y ≤ 1 ∧ wayN g n xy ≤ 1) := fun hb => q8 ((f5 hE).1 hb)
    clear f5 z5 hE q1 q2 q3 q8 hxy hx hy
    generalize wayN g n x = a1 at q4 q7 HU
    generalize wayN g n y = a2 at q5 q7 HU
    generalize wayN g n xy = a3 at q6 q7 HU
    obtain ⟨p, hp⟩ : ∃ p, p = a1 * a2 := ⟨_, rfl⟩
    rw [← hp] at q7
    have ep : (a1 : Int) * (a2 : Int) = (p : Int) := by rw [hp, Int.natCast_mul]
    have hwp : IntKind.i64.wrap (p : Int) = (p : Int) := IntWalk.i64_in _ (by omega)
    have hpc : (p : Int) ≤ (a3 : Int) := by omega
    clear hp
    have HB9 := hid (bl_then HB8.out (bl_new w8 (.cells #[.int .i64 0, .int .i64 0, .int .i64 0] 24)))
    go_wp2_with fail
    with_reducible refine (good_ok _ 3 3 _ (by omega) (zeros3 _ _)).mono ?_
    rintro e w9 ⟨rfl, rfl⟩
    cases b with
    | false =>
      clear HU
      go_wp2
      go_ret
      exact ⟨rfl, HB9.out⟩
    | true =>
      obtain ⟨u1, u2, u3⟩ := HU.out rfl
      have v1 : (a1 : Int) ≤ 1 := by omega
      have v2 : (a2 : Int) ≤ 1 := by omega
      have v3 : (a3 : Int) ≤ 1 := by omega
      clear HU
      go_wp2
      go_ret
      exact ⟨rfl, HB9.out⟩
  · have r1 : wayE g n x = Cm.cErr (cws g n) := by unfold wayE; rw [if_pos hE]
    have r2 : wayN g n x = 0 := by unfold wayN; rw [r1, if_neg hE]
    rw [r1, r2]
    have hE' : (Cm.cErr (cws g n) != 0) = true := bne_iff_ne.2 hE
    have hee : (Cm.cErr (cws g n) == Cm.cErr (cws g n)) = true := by simp
    clear f5 z5 r1 r2
    generalize Cm.cErr (cws g n) = E at hE hE' hee
    go_wp2
    go_ret
    exact ⟨rfl, HB8.out⟩
end Go.Proofs.Ytmgkoliindicgaa
