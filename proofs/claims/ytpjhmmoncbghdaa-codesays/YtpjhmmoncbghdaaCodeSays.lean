/-
The walk of quilllaw.CodeSays: it returns true for every list of strings.
-/
import Derived.Test.YtpjhmmoncbghdaaCodeC
import Derived.Test.YtpjhmmoncbghdaaRefCErr
import Derived.Test.YtpjhmmoncbghdaaRefFront
import Derived.Test.YtpjhmmoncbghdaaRefSole
namespace Go.Proofs.Ytpjhmmoncbghdaa
open Go.RowKit

set_option maxHeartbeats 1000000 in
theorem codeSays_walk (A : Option Addr) (n c : Nat) (g : Nat → ByteArray) (w : World) (h : SRow w A n g) (hc : n ≤ c) (hs : n * 16 ≤ 140737488351232) :
    Calls Try.prog 3 #[.slice A n c] w fun e w' => e = .returned (.bool true) ∧ Below w.heap.size w w' := by
  have hn : n ≤ maxLen := by unfold maxLen; omega
  go_enter Try.func3, Try.ntmps3
  go_wp2_with fail
  with_reducible refine (Front_any _ h hc hn).mono ?_
  rintro e w2 ⟨⟨b2, rfl, f2, z2⟩, hb2⟩
  have H2 := hid (h.keep hb2)
  go_wp2_with fail
  with_reducible refine (Sole_any _ H2.out hc hn).mono ?_
  rintro e w3 ⟨⟨b3, rfl, f3, z3⟩, hb3⟩
  have H3 := hid (H2.out.keep hb3)
  go_wp2_with fail
  with_reducible refine (CodeErr_ok _ H3.out).mono ?_
  rintro e w4 ⟨rfl, rfl⟩
  go_wp2_with fail
  with_reducible refine (Check_any _ H3.out hc hn).mono ?_
  rintro e w4 ⟨rfl, hb4⟩
  have H4 := hid (H3.out.keep hb4)
  have HB4 := hid (bl_then (bl_then hb2 hb3) hb4)
  clear h hb2 hb3 hb4 H2 H3
  have hee : (Cm.cErr (cws g n) == Cm.cErr (cws g n)) = true := by simp
  have hnn : (Cm.cErr (cws g n) != Cm.cErr (cws g n)) = false := by simp
  by_cases he : Cm.cErr (cws g n) = 0
  · have HF2 := hid (f2 he)
    have HF3 := hid (f3 he)
    have HG := hid (Cm.cErr_zero.1 he)
    rw [he]
    clear f2 f3 z2 z3 he hee hnn
    go_wp2_with fail
    with_reducible refine (FrontCode_ok _ H4.out HG.out).mono ?_
    rintro e w5 ⟨⟨b5, rfl, f5⟩, hb5⟩
    have H5 := hid (H4.out.keep hb5)
    have e5 : b5 = b2 := by rw [Bool.eq_iff_iff, f5, HF2.out]
    subst e5
    go_wp2_with fail
    with_reducible refine (SoleCode_ok _ H5.out HG.out).mono ?_
    rintro e w6 ⟨⟨b6, rfl, f6⟩, hb6⟩
    have e6 : b6 = b3 := by rw [Bool.eq_iff_iff, f6, HF3.out]
    subst e6
    have HB6 := hid (bl_then (bl_then HB4.out hb5) hb6)
    have h55 : (b5 == b5) = true := by simp
    have h66 : (b6 == b6) = true := by simp
    clear hb5 hb6 f5 f6 H4 H5 HB4 HF2 HF3 HG
    go_wp2
    go_ret
    exact ⟨rfl, HB6.out⟩
  · obtain rfl : b2 = false := z2 he
    obtain rfl : b3 = false := z3 he
    have hne : (Cm.cErr (cws g n) != 0) = true := bne_iff_ne.2 he
    clear f2 f3 z2 z3 H4
    generalize Cm.cErr (cws g n) = er at he hne hee hnn
    go_wp2
    go_ret
    exact ⟨rfl, HB4.out⟩
end Go.Proofs.Ytpjhmmoncbghdaa
