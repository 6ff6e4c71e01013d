/-
The walk of quilllaw.LyndonSays: it returns true.
-/
import Derived.Test.YtddejiblgodgkaaLFact
import Derived.Test.YtddejiblgodgkaaLong
namespace Go.Proofs.Ytddejiblgodgkaa
open Go.RowKit

theorem says_large (s : ByteArray) (w : World) (hs : 200 < s.size) :
    Calls Try.prog 3 #[.string s] w fun e w' => e = .returned (.bool true) ∧ Below w.heap.size w w' := by
  go_enter Try.func3, Try.ntmps3
  go_wp2_with fail
  with_reducible refine (Split_large s _ hs).mono ?_
  rintro e w1 ⟨rfl, rfl⟩
  go_wp2_with fail
  with_reducible refine (Is_large s _ hs).mono ?_
  rintro e w1 ⟨rfl, rfl⟩
  go_wp2_with fail
  with_reducible refine (Least_large s _ hs).mono ?_
  rintro e w1 ⟨rfl, rfl⟩
  go_wp2_with fail
  with_reducible refine (long_large s _ _ (new_cell _ _ _) hs).mono ?_
  rintro e w2 ⟨rfl, rfl⟩
  have hb := hid (bl_new w (.cells #[.string s] 9))
  generalize w.alloc (.cells #[.string s] 9) = w1 at *
  go_wp2
  go_ret
  exact ⟨by rfl, hb.out⟩
set_option maxHeartbeats 1000000 in
theorem says_ok (s : ByteArray) (w : World) (hs : s.size ≤ 200) :
    Calls Try.prog 3 #[.string s] w fun e w' => e = .returned (.bool true) ∧ Below w.heap.size w w' := by
  go_enter Try.func3, Try.ntmps3
  go_wp2_with fail
  with_reducible refine (Split_row s _ hs).mono ?_
  rintro e w1 ⟨A, c, n, g, rfl, hc, hn, hrow, hfact, hb1⟩
  have HR := hid hrow
  have HF := hid hfact
  clear hrow hfact
  go_wp2_with fail
  with_reducible refine (Is_ok s _ hs).mono ?_
  rintro e w2 ⟨⟨b, hb, rfl⟩, hd2⟩
  have HB := hid hb
  clear hb
  have HR2 := hid (HR.out.keep (hd2.below _))
  have hb2 := bl_then hb1 (hd2.below _)
  clear HR hb1 hd2
  go_wp2_with fail
  with_reducible refine (Least_turn s _ hs).mono ?_
  rintro e w3 ⟨⟨t, i, rfl, hlt⟩, hd3⟩
  have HL := hid hlt
  clear hlt
  have HR3 := hid (HR2.out.keep (hd3.below _))
  have hb3 := bl_then hb2 (hd3.below _)
  clear HR2 hb2 hd3
  go_wp2_with fail
  with_reducible refine (long_ok s _ _ (new_cell _ _ _) hs).mono ?_
  rintro e w4 ⟨rfl, rfl⟩
  have HR4 := hid (HR3.out.keep (bl_new w3 (.cells #[.string s] 9)))
  have hb4 := bl_then hb3 (bl_new w3 (.cells #[.string s] 9))
  clear HR3 hb3
  generalize w3.alloc (.cells #[.string s] 9) = w4 at *
  go_wp2
  go_loopw [68] (fun x wr => ∃ k : Nat, k ≤ n ∧ x = .int .i64 (k : Int) ∧ Hid (SRow wr A n g) ∧ Below w.heap.size w wr) (fun x _ => n - (intOf x).toNat)
  case atStart => exact ⟨0, by omega, rfl, HR4, hb4⟩
  case round =>
    obtain ⟨k, hk, rfl, HR5, hb5⟩ := hrel
    by_cases hkn : k < n
    · obtain ⟨bk, o, rfl, hbk, hck⟩ := HR5.out k hkn
      have hgs := HF.out.small hkn
      have HG := hid (HF.out.lyn hkn)
      have hkn' : (k : Int) < (n : Int) := by omega
      have hok : (0 : Int) ≤ (k : Int) := by omega
      go_wp2_with fail
      with_reducible refine (refLyndon (g k) _ (by omega)).mono ?_
      rintro e w5 ⟨⟨b5, hb5', rfl⟩, hd5⟩
      obtain rfl : b5 = true := hb5'.2 HG.out
      clear hb5' hck
      have HR6 := hid (HR5.out.keep (hd5.below _))
      have hb6 := bl_then hb5 (hd5.below _)
      clear HR5 hb5 hd5 hbk
      by_cases hk0 : 0 < k
      · obtain ⟨ip, hip⟩ : ∃ ip, ip = k - 1 := ⟨_, rfl⟩
        obtain ⟨bk', o', hbo, _, hci⟩ := HR6.out ip (by omega)
        obtain ⟨rfl, rfl⟩ : bk = bk' ∧ o = o' := by injection hbo with hbo; injection hbo with h1 h2; exact ⟨h1, h2⟩
        have hless := less_no (HF.out.falls (j := ip) (k := k) (by omega) hkn)
        have eim : (k : Int) - 1 = (ip : Int) := by omega
        have hwp : IntKind.i64.wrap (ip : Int) = (ip : Int) := IntWalk.i64_in _ (by omega)
        have hpq : (ip : Int) < (n : Int) := by omega
        have hip0 : (0 : Int) ≤ (ip : Int) := by omega
        have hdk : decide ((0 : Int) < (k : Int)) = true := decide_eq_true (by omega)
        clear hip hbo
        go_wp2
        go_roundw
        case measure => simp [intOf]; omega
        case rel => exact ⟨k + 1, by omega, by go_num, HR6, hb6⟩
      · have hdk : decide ((0 : Int) < (k : Int)) = false := decide_eq_false (by omega)
        go_wp2
        go_roundw
        case measure => simp [intOf]; omega
        case rel => exact ⟨k + 1, by omega, by go_num, HR6, hb6⟩
    · have hdl : decide ((k : Int) < (n : Int)) = false := decide_eq_false (by omega)
      go_wp2_with fail
      with_reducible refine (HL.out _).mono ?_
      rintro e w5 ⟨rfl, hb6⟩
      have HR6 := hid (HR5.out.keep hb6)
      have hb7 := bl_then hb5 hb6
      clear HR5 hb5 hb6 HL
      have hfl : ((rowL g n).map wd).flatten.length ≤ 140737488355328 := by rw [Lm.Fact.all HF.out, wd_len]; omega
      go_wp2_with fail
      with_reducible refine (join_any HR6.out (by omega) hc hfl).mono ?_
      rintro e w6 ⟨⟨t6, rfl, ht6⟩, hb8⟩
      obtain rfl : t6 = s := wd_inj (ht6.trans (Lm.Fact.all HF.out))
      have hb9 := bl_then hb7 hb8
      clear ht6 hb7 hb8 hfl
      go_wp2_with fail
      with_reducible refine (refLyndon _ _ (by omega)).mono ?_
      rintro e w7 ⟨⟨b7, hb7, rfl⟩, hd7⟩
      obtain rfl : b7 = b := by
        have := HB.out
        cases b7 <;> cases b <;> simp_all
      have hb10 := hid (bl_then hb9 (hd7.below _))
      clear hb7 hb9 hd7
      go_wp2
      go_ret
      exact ⟨by simp, hb10.out⟩
theorem says_any (s : ByteArray) (_ : s.size ≤ maxLen) (w : World) :
    Calls Try.prog 3 #[.string s] w fun e w' => e = .returned (.bool true) ∧ Below w.heap.size w w' := by
  by_cases h : s.size ≤ 200
  · exact says_ok s w h
  · exact says_large s w (by omega)
end Go.Proofs.Ytddejiblgodgkaa
