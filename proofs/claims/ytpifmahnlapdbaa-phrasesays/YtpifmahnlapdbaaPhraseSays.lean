
/-
quilllaw.PhraseSays: whatever s, l, rest: it answers true.
-/
import Derived.Test.YtpifmahnlapdbaaRefText
import Derived.Test.YtpifmahnlapdbaaPEqual
import Derived.Test.YtpifmahnlapdbaaLong
namespace Go.Proofs.Ytpifmahnlapdbaa
open Go.RowKit

set_option maxHeartbeats 1000000 in
theorem phraseSays_walk (s : ByteArray) (A : Option Addr) (n c : Nat) (g : Nat → Ph.P) (rest : ByteArray) (w : World) (_hs : s.size ≤ 140737488351232) (hr : PRow w A n g) (_hc : n ≤ c) (_hrest : rest.size ≤ 140737488351232) :
    Calls Try.prog 3 #[.string s, .slice A n c, .string rest] w fun e w' => e = .returned (.bool true) ∧ Below w.heap.size w w' := by
  have HX : Hid (∃ q : Nat × List UInt8, q = Ph.getP (phs g n) (lst rest)) := ⟨_, rfl⟩
  obtain ⟨q, hq⟩ := HX.out
  have hGet := fun (w1 : World) (h : PRow w1 A n g) => Get_any (c := c) rest w1 h
  have hTxt := fun (w1 : World) (h : PRow w1 A n g) => TextOf_any (c := c) rest w1 h
  simp only [← hq] at hGet hTxt
  obtain ⟨t, ht⟩ : ∃ t, t = mkS q.2 := ⟨_, rfl⟩
  obtain ⟨f, hf⟩ : ∃ f, f = q.1 := ⟨_, rfl⟩
  simp only [← ht, ← hf] at hGet hTxt
  have HR := hid hr
  have hff : ((f : Int) == (f : Int)) = true := by simp
  have htt : (t.toList == t.toList) = true := beq_self_eq_true _
  clear hr hq ht hf HX
  by_cases hs : s.size ≤ 200
  · have hput := fun (w1 : World) => Put_ok s w1 hs
    have hof := fun (w1 : World) => PhrasesOf_ok s w1 hs
    obtain ⟨L, hL⟩ : ∃ L, L = (Ph.prun (lst s)).1 := ⟨_, rfl⟩
    have hlen : L.length ≤ 200 := by have := Ph.prun_len (lst s); rw [← hL, lst_len] at this; omega
    obtain ⟨r, hr⟩ : ∃ r, r = mkS (Ph.prest (lst s)) := ⟨_, rfl⟩
    simp only [← hL, ← hr] at hput hof
    have hrr : (r.toList == r.toList) = true := beq_self_eq_true _
    have hlm : L.length ≤ maxLen := by unfold maxLen; omega
    have HE : Hid (eqP L.length L.length (fun k => L.getD k (0, 0)) (fun k => L.getD k (0, 0)) = true) := by unfold Hid; rw [eqP_list]; simp
    clear hL hr
    go_enter Try.func3, Try.ntmps3
    go_wp2_with fail
    with_reducible refine (hput _).mono ?_
    rintro e w1 ⟨v, rfl, hown, hb1⟩
    obtain ⟨B, d, rfl, hd, hrow⟩ := hown.row
    have HB1 := hid hb1
    have HP1 := hid hrow
    have HR1 := hid (HR.out.keep hb1)
    clear hown hb1 hrow HR hput
    go_wp2_with fail
    with_reducible refine (hGet _ HR1.out).mono ?_
    rintro e w2 ⟨rfl, hb⟩
    have HB2 := hid (bl_then HB1.out hb)
    have HP2 := hid (HP1.out.keep hb)
    have HR2 := hid (HR1.out.keep hb)
    clear hb HB1 HP1 HR1 hGet
    go_wp2_with fail
    with_reducible refine (long_ok s w2.heap.size _ (new_cell _ _ _) hs).mono ?_
    rintro e w3 ⟨rfl, hw3⟩
    have hb3 := bl_new w2 (.cells #[.string s] 9)
    rw [hw3] at hb3
    have HB3 := hid (bl_then HB2.out hb3)
    have HP3 := hid (HP2.out.keep hb3)
    have HR3 := hid (HR2.out.keep hb3)
    clear hb3 hw3 HB2 HP2 HR2
    go_wp2_with fail
    with_reducible refine (hof _).mono ?_
    rintro e w4 ⟨v, rfl, hown, hb⟩
    obtain ⟨C, d2, rfl, hd2, hrow⟩ := hown.row
    have HB4 := hid (bl_then HB3.out hb)
    have HP4 := hid (HP3.out.keep hb)
    have HR4 := hid (HR3.out.keep hb)
    have HQ4 := hid hrow
    clear hb hown hrow HB3 HP3 HR3 hof
    go_wp2_with fail
    with_reducible refine (palike_any HP4.out HQ4.out hlm hlm).mono ?_
    rw [HE.out]
    rintro e w5 ⟨rfl, hd⟩
    have hb := hd.below w4.heap.size
    have HB5 := hid (bl_then HB4.out hb)
    have HR5 := hid (HR4.out.keep hb)
    clear hb hd HB4 HP4 HR4 HQ4 HE hlm
    go_wp2_with fail
    with_reducible refine (hTxt _ HR5.out).mono ?_
    rintro e w6 ⟨rfl, hb⟩
    have HB6 := hid (bl_then HB5.out hb)
    clear hb HB5 HR5 hTxt
    go_wp2
    go_ret
    exact ⟨rfl, HB6.out⟩
  · have hs2 : 200 < s.size := by omega
    have hee : ((ByteArray.empty).toList == (⟨#[]⟩ : ByteArray).toList) = true := beq_self_eq_true _
    go_enter Try.func3, Try.ntmps3
    go_wp2_with fail
    with_reducible refine (Put_large s _ hs2).mono ?_
    rintro e w1 ⟨rfl, rfl⟩
    go_wp2_with fail
    with_reducible refine (hGet _ HR.out).mono ?_
    rintro e w2 ⟨rfl, hb⟩
    have HB2 := hid hb
    have HR2 := hid (HR.out.keep hb)
    clear hb HR hGet
    go_wp2_with fail
    with_reducible refine (long_large s w2.heap.size _ (new_cell _ _ _) hs2).mono ?_
    rintro e w3 ⟨rfl, hw3⟩
    have hb3 := bl_new w2 (.cells #[.string s] 9)
    rw [hw3] at hb3
    have HB3 := hid (bl_then HB2.out hb3)
    have HR3 := hid (HR2.out.keep hb3)
    clear hb3 hw3 HB2 HR2
    go_wp2_with fail
    with_reducible refine (hTxt _ HR3.out).mono ?_
    rintro e w6 ⟨rfl, hb⟩
    have HB6 := hid (bl_then HB3.out hb)
    clear hb HB3 HR3 hTxt
    go_wp2
    go_ret
    exact ⟨rfl, HB6.out⟩
end Go.Proofs.Ytpifmahnlapdbaa
