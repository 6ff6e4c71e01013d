/-
The walk of quillkeep.CodeKraft: it returns true for every list of strings.
-/
import Derived.Test.YtpjhmmoncbghdaaCodes
namespace Go.Proofs.Ytpjhmmoncbghdaa
open Go.RowKit

set_option maxHeartbeats 1000000 in
theorem codeKraft_walk (A : Option Addr) (n c : Nat) (g : Nat → ByteArray) (w : World) (h : SRow w A n g) (hc : n ≤ c) (hs : n * 16 ≤ 140737488351232) :
    Calls Try.prog 5 #[.slice A n c] w fun e w' => e = .returned (.bool true) ∧ Below w.heap.size w w' := by
  have hn : n ≤ maxLen := by unfold maxLen; omega
  go_enter Try.func5, Try.ntmps5
  go_wp2_with fail
  with_reducible refine (codes_ok _).mono ?_
  rintro e w1 ⟨rfl, hb1⟩
  have H1 := hid (h.keep hb1)
  go_wp2_with fail
  with_reducible refine (Front_any _ H1.out hc hn).mono ?_
  rintro e w2 ⟨⟨b2, rfl, f2, z2⟩, hb2⟩
  have H2 := hid (H1.out.keep hb2)
  go_wp2_with fail
  with_reducible refine (Sole_any _ H2.out hc hn).mono ?_
  rintro e w3 ⟨⟨b3, rfl, f3, z3⟩, hb3⟩
  have H3 := hid (H2.out.keep hb3)
  have HB3 := hid (bl_then (bl_then hb1 hb2) hb3)
  clear h hb1 hb2 hb3 H1 H2
  by_cases he : Cm.cErr (cws g n) = 0
  · have HF2 := hid (f2 he)
    have HF3 := hid (f3 he)
    have HG := hid (Cm.cErr_zero.1 he)
    rw [he]
    have hn12 : n ≤ 12 := by have := HG.out.few; rw [cws_len] at this; exact this
    clear f2 f3 z2 z3 he
    go_wp2_with fail
    with_reducible refine (lensOf_ok _ H3.out hn12).mono ?_
    rintro e w4 ⟨A4, c4, rfl, hc4, hr4, hb4⟩
    have R4 := hid hr4
    clear hr4
    go_wp2_with fail
    with_reducible refine (Sum_any _ R4.out hc4 hn).mono ?_
    rintro e w5 ⟨rfl, hb5⟩
    have hl0 : Cm.lErr (fun k => ((g k).size : Int)) n = 0 := by
      rw [lErr_zero]
      refine ⟨hn12, fun j hj => ?_⟩
      have hm : wd (g j) ∈ cws g n := mem_cws.2 ⟨j, hj, rfl⟩
      have h1 := HG.out.short _ hm
      have h2 := List.length_pos_iff.2 (HG.out.some_ _ hm)
      rw [wd_len] at h1 h2
      omega
    have hsum : lSum (fun k => ((g k).size : Int)) n = (Cm.ws 12 (cws g n) : Nat) := by
      unfold lSum
      rw [if_pos hl0, Cm.ws_tot, cws_len]
      congr 1
      refine Cm.sm_congr fun j hj => ?_
      show 2 ^ (12 - ((g j).size : Int).toNat) = 2 ^ (12 - ((cws g n).getD j []).length)
      rw [cws_get hj, wd_len]
      rfl
    rw [hl0, hsum]
    have HK : Hid (b3 = true → (Cm.ws 12 (cws g n) : Nat) ≤ 4096) := fun hb => (HF3.out.1 hb).kraft HG.out.nodup HG.out.bits HG.out.short
    have HP : Hid (b2 = true → b3 = true) := fun hb => HF3.out.2 ((HF2.out.1 hb).ud HG.out.some_)
    have HB5 := hid (bl_then (bl_then HB3.out hb4) hb5)
    clear hb4 hb5 HB3 hl0 hsum HF2 HF3 HG H3 R4
    generalize Cm.ws 12 (cws g n) = s at HK
    cases b3 with
    | true =>
      have hs2 : (s : Int) ≤ 4096 := by have := HK.out rfl; omega
      cases b2 with
      | true =>
        go_wp2
        go_ret
        exact ⟨rfl, HB5.out⟩
      | false =>
        go_wp2
        go_ret
        exact ⟨rfl, HB5.out⟩
    | false =>
      obtain rfl : b2 = false := by
        cases b2 with
        | false => rfl
        | true => exact (HP.out rfl).symm
      go_wp2
      go_ret
      exact ⟨rfl, HB5.out⟩
  · obtain rfl : b2 = false := z2 he
    obtain rfl : b3 = false := z3 he
    have hne : (Cm.cErr (cws g n) != 0) = true := bne_iff_ne.2 he
    have hee : (Cm.cErr (cws g n) == Cm.cErr (cws g n)) = true := by simp
    clear f2 f3 z2 z3 H3
    generalize Cm.cErr (cws g n) = er at he hne hee
    go_wp2
    go_ret
    exact ⟨rfl, HB3.out⟩
end Go.Proofs.Ytpjhmmoncbghdaa
