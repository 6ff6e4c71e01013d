/-
The walk of quillkeep.CodeMade: it returns true for every list of numbers.
-/
import Derived.Test.YtpjhmmoncbghdaaCodes
import Derived.Test.YtpjhmmoncbghdaaEqual
namespace Go.Proofs.Ytpjhmmoncbghdaa
open Go.RowKit

def lens3 : List Int := [2, 1, 2]
def words3 : List ByteArray := [⟨#[49, 48]⟩, ⟨#[48]⟩, ⟨#[49, 49]⟩]
def lensG (k : Nat) : Int := lens3.getD k 0
theorem made3 : rowL (fun j => mkS (Cm.cw (Cm.ln lensG) 3 j)) 3 = rowL (fun k => words3.getD k ByteArray.empty) 3 := by decide +kernel
theorem mErr3 : mErr lensG 3 = 0 := by decide +kernel
/-- The words that are made are a good code, and none begins another one. -/
theorem made_good {g : Nat → Int} {n : Nat} (h12 : n ≤ 12) (hg : ∀ j, j < n → 1 ≤ g j ∧ g j ≤ 12) (ht : Cm.tot (Cm.ln g) n ≤ 4096) :
    Cm.Good (cws (fun j => mkS (Cm.cw (Cm.ln g) n j)) n) ∧ Cm.PF (cws (fun j => mkS (Cm.cw (Cm.ln g) n j)) n) := by
  have hl : ∀ j, j < n → Cm.ln g j ≤ 12 := fun j hj => by have := hg j hj; unfold Cm.ln; omega
  have hl1 : ∀ j, j < n → 1 ≤ Cm.ln g j := fun j hj => by have := hg j hj; unfold Cm.ln; omega
  have hw : ∀ j, wd (mkS (Cm.cw (Cm.ln g) n j)) = Cm.cw (Cm.ln g) n j := fun j => lst_mk _
  have hlen : ∀ j, (Cm.cw (Cm.ln g) n j).length = Cm.ln g j := fun j => by unfold Cm.cw; rw [Cm.bits_len]
  have hmem : ∀ x, x ∈ cws (fun j => mkS (Cm.cw (Cm.ln g) n j)) n → ∃ j, j < n ∧ x = Cm.cw (Cm.ln g) n j := by
    intro x hx
    obtain ⟨j, hj, e⟩ := mem_cws.1 hx
    exact ⟨j, hj, by rw [← e, hw]⟩
  refine ⟨⟨by rw [cws_len]; exact h12, ?_, ?_, ?_, ?_⟩, ?_⟩
  · unfold cws
    refine Cm.nodup_map' List.nodup_range fun a ha b hb e => ?_
    rw [hw, hw] at e
    by_cases hab : a = b
    · exact hab
    · exact absurd (by rw [e]; exact List.prefix_refl _) (Cm.cw_apart (List.mem_range.1 ha) (List.mem_range.1 hb) hl ht hab)
  · intro x hx e
    obtain ⟨j, hj, rfl⟩ := hmem x hx
    have := hlen j
    rw [e, List.length_nil] at this
    have := hl1 j hj
    omega
  · intro x hx
    obtain ⟨j, hj, rfl⟩ := hmem x hx
    rw [hlen]; exact hl j hj
  · intro x hx
    obtain ⟨j, hj, rfl⟩ := hmem x hx
    exact Cm.bits_are _ _
  · intro x hx y hy hp
    obtain ⟨a, ha, rfl⟩ := hmem x hx
    obtain ⟨b, hb, rfl⟩ := hmem y hy
    by_cases hab : a = b
    · rw [hab]
    · exact absurd hp (Cm.cw_apart ha hb hl ht hab)
set_option maxHeartbeats 1000000 in
theorem codeMade_walk (A : Option Addr) (n c : Nat) (g : Nat → Int) (w : World) (h : IRow w A n g) (hc : n ≤ c) (hs : n * 8 ≤ 140737488351232) :
    Calls Try.prog 6 #[.slice A n c] w fun e w' => e = .returned (.bool true) ∧ Below w.heap.size w w' := by
  have hn : n ≤ maxLen := by unfold maxLen; omega
  have hM := fun W => Make_any (c := 3) (g := lensG) (W.alloc (.cells #[.int .i64 2, .int .i64 1, .int .i64 2] 3)) (IRow.lit W lens3 3 3 _ rfl rfl) (by decide) (by decide)
  go_enter Try.func6, Try.ntmps6
  go_wp2_with fail
  refine (hM _).mono ?_
  rintro e w1 ⟨⟨A1, m1, c1, rfl, hc1, hr1, _, f1⟩, hb1⟩
  obtain rfl : m1 = 3 := f1 mErr3
  rw [mErr3]
  clear hM f1
  have hb2 := bl_new w1 (.cells #[.string ⟨#[49, 48]⟩, .string ⟨#[48]⟩, .string ⟨#[49, 49]⟩] 9)
  have HL := hid (show SRow (w1.alloc (.cells #[.string ⟨#[49, 48]⟩, .string ⟨#[48]⟩, .string ⟨#[49, 49]⟩] 9)) (some ⟨w1.heap.size, 0, none⟩) 3 (fun k => words3.getD k ByteArray.empty) from SRow.lits w1 words3 9 3 _ rfl rfl)
  have HR := hid (hr1.keep hb2)
  have HB2 := hid (bl_then (bl_then (bl_new w _) hb1) hb2)
  clear hr1 hb1 hb2
  go_wp2_with fail
  with_reducible refine (sequal_any HR.out HL.out (by decide) (by decide) true (decide_eq_true made3).symm).mono ?_
  rintro e w3 ⟨rfl, hd⟩
  have HB3 := hid (HB2.out.trans (hd.below _))
  clear HL HR HB2 hd
  go_wp2_with fail
  with_reducible refine (codes_ok _).mono ?_
  rintro e w4 ⟨rfl, hb4⟩
  have HB4 := hid (bl_then HB3.out hb4)
  have H4 := hid (h.keep HB4.out)
  clear HB3 hb4 h
  go_wp2_with fail
  with_reducible refine (Sum_any _ H4.out hc hn).mono ?_
  rintro e w5 ⟨rfl, hb5⟩
  have H5 := hid (H4.out.keep hb5)
  go_wp2_with fail
  with_reducible refine (Make_any _ H5.out hc hn).mono ?_
  rintro e w6 ⟨⟨A6, m, c6, rfl, hc6, hr6, z6, f6⟩, hb6⟩
  have H6 := hid (H5.out.keep hb6)
  have HB6 := hid (bl_then (bl_then HB4.out hb5) hb6)
  have R6 := hid hr6
  clear hb5 hb6 H4 H5 HB4 hr6
  by_cases he : Cm.lErr g n = 0
  · obtain ⟨h12, hg⟩ := lErr_zero.1 he
    have hsum : lSum g n = (Cm.tot (Cm.ln g) n : Nat) := by unfold lSum; rw [if_pos he]
    have hmE : mErr g n = if 4096 < Cm.tot (Cm.ln g) n then 4 else 0 := by unfold mErr; rw [if_neg (by simpa using he)]
    have htl := Cm.tot_le (Cm.ln g) n
    rw [he, hsum]
    by_cases ht : Cm.tot (Cm.ln g) n ≤ 4096
    · have hm0 : mErr g n = 0 := by rw [hmE, if_neg (by omega)]
      obtain rfl : m = n := f6 hm0
      rw [hm0]
      obtain ⟨hgood, hpf⟩ := made_good h12 hg ht
      have ce := Cm.cErr_zero.2 hgood
      have HP := hid hpf
      clear f6 z6 hmE hm0 he hsum hgood hpf
      have ht' : ((Cm.tot (Cm.ln g) m : Nat) : Int) ≤ 4096 := by omega
      go_wp2_with fail
      with_reducible refine (Front_any _ R6.out hc6 hn).mono ?_
      rintro e w7 ⟨⟨b7, rfl, f7, _⟩, hb7⟩
      obtain rfl : b7 = true := (f7 ce).2 HP.out
      rw [ce]
      have R7 := hid (R6.out.keep hb7)
      have H7 := hid (H6.out.keep hb7)
      clear f7 ce HP R6
      go_wp2_with fail
      with_reducible refine (lensOf_ok _ R7.out h12).mono ?_
      rintro e w8 ⟨A8, c8, rfl, hc8, hr8, hb8⟩
      have HR8 := hid hr8
      have H8 := hid (H7.out.keep hb8)
      have HB8 := hid (bl_then (bl_then HB6.out hb7) hb8)
      have HE : Hid (eqB m m (fun k => ((mkS (Cm.cw (Cm.ln g) m k)).size : Int)) g = true) := by
        refine eqB_true.2 ⟨rfl, fun k hk => ?_⟩
        rw [mk_size]
        unfold Cm.cw Cm.ln
        rw [Cm.bits_len]
        have := hg k hk
        omega
      clear hr8 hb7 hb8 HB6 R7 H7 H6 hg
      go_wp2_with fail
      with_reducible refine (equal_any HR8.out H8.out hn hn).mono ?_
      rw [HE.out]
      rintro e w9 ⟨rfl, hd9⟩
      have HB9 := hid (HB8.out.trans (hd9.below _))
      clear hd9 HB8 HE HR8 H8
      generalize Cm.tot (Cm.ln g) m = tt at ht' htl ht
      go_wp2
      go_ret
      exact ⟨rfl, HB9.out⟩
    · have hm0 : mErr g n = 4 := by rw [hmE, if_pos (by omega)]
      obtain rfl : m = 0 := z6 (by rw [hm0]; decide)
      rw [hm0]
      clear f6 z6 hmE hm0 he hsum hg R6 H6
      generalize Cm.tot (Cm.ln g) n = tt at htl ht
      have ht' : (4096 : Int) < (tt : Int) := by omega
      go_wp2
      go_ret
      exact ⟨rfl, HB6.out⟩
  · have hmE : mErr g n = Cm.lErr g n := by unfold mErr; rw [if_pos he]
    obtain rfl : m = 0 := z6 (by rw [hmE]; exact he)
    rw [hmE]
    have hne : (Cm.lErr g n != 0) = true := bne_iff_ne.2 he
    have heq : (Cm.lErr g n == Cm.lErr g n) = true := by simp
    clear f6 z6 hmE R6 H6
    generalize Cm.lErr g n = er at *
    generalize lSum g n = sm at *
    go_wp2
    go_ret
    exact ⟨rfl, HB6.out⟩
end Go.Proofs.Ytpjhmmoncbghdaa
