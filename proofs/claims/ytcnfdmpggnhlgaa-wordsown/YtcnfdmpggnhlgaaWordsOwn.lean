/-
The walk of quillkeep.WordsOwn: it returns true for every string and list of strings.
-/
import Derived.Test.YtcnfdmpggnhlgaaOwnU
import Derived.Test.YtcnfdmpggnhlgaaWords
import Derived.Test.YtcnfdmpggnhlgaaSeeks
import Derived.Test.YtcnfdmpggnhlgaaEnds
import Derived.Test.YtcnfdmpggnhlgaaTries
namespace Go.Proofs.Ytcnfdmpggnhlgaa
open Go.RowKit

set_option maxHeartbeats 2000000 in
set_option maxRecDepth 100000 in
theorem wordsOwn_walk (s : ByteArray) (A : Option Addr) (n c : Nat) (g : Nat → ByteArray) (w : World) (_ : s.size ≤ 140737488351232) (hrow : SRow w A n g) (hc : n ≤ c) (hbig : n * 16 ≤ 140737488351232) :
    Calls Try.prog 8 #[.string s, .slice A n c] w fun e w' => e = .returned (.bool true) ∧ Below w.heap.size w w' := by
  have HROW := hid hrow
  clear hrow
  go_enter Try.func8, Try.ntmps8
  go_wp2_with fail
  with_reducible refine (words_any _).mono ?_
  rintro e w1 ⟨rfl, hb1⟩
  go_wp2_with fail
  with_reducible refine (seeks_any _).mono ?_
  rintro e w2 ⟨rfl, hb2⟩
  go_wp2_with fail
  with_reducible refine (ends_any _).mono ?_
  rintro e w3 ⟨rfl, hb3⟩
  go_wp2_with fail
  with_reducible refine (tries_true _).mono ?_
  rintro e w4 ⟨rfl, hb4⟩
  have HB4 := hid (bl_then (bl_then (bl_then hb1 hb2) hb3) hb4)
  clear hb1 hb2 hb3 hb4
  go_wp2_with fail
  with_reducible refine (clone_t _ A n c g (HROW.out.keep HB4.out) hbig).mono ?_
  rintro e w5 ⟨⟨A5, c5, rfl, hr5⟩, hb5⟩
  have HB5 := hid (bl_then HB4.out hb5)
  have HWAS := hid hr5
  have HPAT := hid ((HROW.out.keep HB4.out).keep hb5)
  clear hr5 hb5 HB4 HROW
  go_wp2_with fail
  with_reducible refine (Borders_u s _).mono ?_
  rintro e w6 ⟨A6, n6, c6, g6, rfl, _, _, _, hs6, hb6⟩
  obtain ⟨cw, hcw⟩ : ∃ cw, cw = codeW s := ⟨_, rfl⟩
  rw [← hcw]
  have HCW := hid hcw
  have S6 := hid hs6
  have B6 := hid hb6
  clear hs6 hb6 hcw
  go_wp2_with fail
  with_reducible refine (Fronts_u s _).mono ?_
  rintro e w7 ⟨v7, rfl, hs7, hb7⟩
  have S7 := hid hs7
  have B7 := hid hb7
  clear hs7 hb7
  go_wp2_with fail
  with_reducible refine (Order_u s _).mono ?_
  rintro e w8 ⟨v8, rfl, hs8, hb8⟩
  have S8 := hid hs8
  have B8 := hid hb8
  clear hs8 hb8
  have B58 := hid (bl_then (bl_then B6.out B7.out) B8.out)
  go_wp2_with fail
  with_reducible refine (TFind_u _ A n c g s (HPAT.out.keep B58.out) hc).mono ?_
  rintro e w9 ⟨A9, n9, c9, h9, cd9, rfl, _, _, hs9, hb9⟩
  have S9 := hid hs9
  have B9 := hid hb9
  clear hs9 hb9
  have Z56 := hid B6.out.size
  have Z67 := hid B7.out.size
  have Z78 := hid B8.out.size
  have Z89 := hid B9.out.size
  have T6 := hid (S6.out.after (bl_then (bl_then B7.out B8.out) B9.out))
  have T7 := hid (S7.out.after (bl_then B8.out B9.out))
  have T8 := hid (S8.out.after B9.out)
  have L6 : Hid (∀ k, (Value.slice A6 n6 c6).ownBlock = some k → k < w6.heap.size) := fun k e => (S6.out.block e).2
  have L7 : Hid (∀ k, v7.ownBlock = some k → k < w7.heap.size) := fun k e => (S7.out.block e).2
  have L8 : Hid (∀ k, v8.ownBlock = some k → k < w8.heap.size) := fun k e => (S8.out.block e).2
  have B59 := hid (bl_then B58.out B9.out)
  clear S6 S7 S8 B6 B7 B8 B9 B58
  go_wp2_with fail
  with_reducible refine (spoilI_any _ w5.heap.size _ (-7) T6.out).mono ?_
  rintro e w10 ⟨rfl, hg10⟩
  have D10 := hid (T6.out.low hg10 (Nat.le_refl _) (by have := Z56.out; have := Z67.out; have := Z78.out; have := Z89.out; omega))
  have U7 := hid (T7.out.past hg10 L6.out)
  have U8 := hid (T8.out.past hg10 fun k e => by have := L6.out k e; have := Z67.out; omega)
  have U9 := hid (S9.out.past hg10 fun k e => by have := L6.out k e; have := Z67.out; have := Z78.out; omega)
  have Y10 := hid hg10.size
  clear hg10 T6 T7 T8 S9
  go_wp2_with fail
  with_reducible refine (spoilI_any _ w6.heap.size _ (-7) U7.out).mono ?_
  rintro e w11 ⟨rfl, hg11⟩
  have D11 := hid (U7.out.low (N := w5.heap.size) hg11 Z56.out (by have := Z56.out; have := Z67.out; have := Z78.out; have := Z89.out; have := Y10.out; omega))
  have V8 := hid (U8.out.past hg11 L7.out)
  have V9 := hid (U9.out.past hg11 fun k e => by have := L7.out k e; have := Z78.out; omega)
  have Y11 := hid hg11.size
  clear hg11 U7 U8 U9
  go_wp2_with fail
  with_reducible refine (spoilI_any _ w7.heap.size _ (-7) V8.out).mono ?_
  rintro e w12 ⟨rfl, hg12⟩
  have D12 := hid (V8.out.low (N := w5.heap.size) hg12 (by have := Z56.out; have := Z67.out; omega) (by have := Z56.out; have := Z67.out; have := Z78.out; have := Z89.out; have := Y10.out; have := Y11.out; omega))
  have W9 := hid (V9.out.past hg12 L8.out)
  have Y12 := hid hg12.size
  clear hg12 V8 V9
  go_wp2_with fail
  with_reducible refine (spoilH_any _ w8.heap.size _ (-7) 0 W9.out).mono ?_
  rintro e w13 ⟨rfl, hg13⟩
  have D13 := hid (W9.out.low (N := w5.heap.size) hg13 (by have := Z56.out; have := Z67.out; have := Z78.out; omega) (by have := Z56.out; have := Z67.out; have := Z78.out; have := Z89.out; have := Y10.out; have := Y11.out; have := Y12.out; omega))
  have B513 := hid ((((B59.out.trans D10.out).trans D11.out).trans D12.out).trans D13.out)
  clear hg13 W9 D10 D11 D12 D13 Y10 Y11 Y12 Z56 Z67 Z78 Z89 L6 L7 L8 B59
  go_wp2_with fail
  with_reducible refine (Borders_u s _).mono ?_
  rw [← HCW.out]
  rintro e w14 ⟨A14, n14, c14, g14, rfl, hr14, hn14, hg14, _, hb14⟩
  have R14 := hid hr14
  have G14 := hid hg14
  have B14 := hid hb14
  have Z513 := hid B513.out.size
  have B514 := hid (B513.out.trans (B14.out.mono Z513.out))
  clear hr14 hg14 hb14
  go_wp2_with fail
  with_reducible refine (TFind_u _ A n c g s (HPAT.out.keep B514.out) hc).mono ?_
  rintro e w15 ⟨A15, n15, c15, h15, cd15, rfl, hr15, hn15, _, hb15⟩
  have R15 := hid hr15
  have R14b := hid (R14.out.keep hb15)
  have B515 := hid (bl_then B514.out hb15)
  clear hr15 hb15 R14 B14 B514 B513 Z513
  have P15 := hid (HPAT.out.keep B515.out)
  have Q15 := hid (HWAS.out.keep B515.out)
  have hnm : n ≤ maxLen := by unfold maxLen; omega
  go_wp2_with fail
  with_reducible refine (sequal_same P15.out Q15.out hnm).mono ?_
  rintro e w16 ⟨rfl, hd16⟩
  have B1516 := hid (hd16.below w15.heap.size)
  have R14c := hid (R14b.out.keep B1516.out)
  have R15c := hid (R15.out.keep B1516.out)
  have B516 := hid (bl_then B515.out B1516.out)
  have hcc : (cw == cw) = true := by simp
  have hn14m : n14 ≤ maxLen := by unfold maxLen; omega
  clear hd16 B1516 R14b R15 B515 P15 Q15
  go_wp2_with fail
  with_reducible refine (contains_no R14c.out hn14m G14.out).mono ?_
  rintro e w17 ⟨rfl, rfl⟩
  go_wp2_with fail
  with_reducible refine (hcontains_neg (-7) 0 (by omega) R15c.out hn15).mono ?_
  rintro e w18 ⟨rfl, hb18⟩
  have HFIN := hid (bl_then HB5.out (bl_then B516.out hb18))
  clear hb18 R14c R15c B516 HB5 HPAT HWAS
  go_wp2
  go_ret
  exact ⟨rfl, HFIN.out⟩
end Go.Proofs.Ytcnfdmpggnhlgaa
