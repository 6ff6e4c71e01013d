/-
The walk of quilllaw.CodeMakes: it returns true for every list of numbers.
-/
import Derived.Test.YtpjhmmoncbghdaaCodeC
import Derived.Test.YtpjhmmoncbghdaaRefCodes
import Derived.Test.YtpjhmmoncbghdaaSAlike
namespace Go.Proofs.Ytpjhmmoncbghdaa
open Go.RowKit

set_option maxHeartbeats 1000000 in
theorem codeMakes_walk (A : Option Addr) (n c : Nat) (g : Nat → Int) (w : World) (h : IRow w A n g) (hc : n ≤ c) (hs : n * 8 ≤ 140737488351232) :
    Calls Try.prog 4 #[.slice A n c] w fun e w' => e = .returned (.bool true) ∧ Below w.heap.size w w' := by
  have hn : n ≤ maxLen := by unfold maxLen; omega
  have hL : ∀ W, IRow W A n g → Calls Try.prog 17 #[.slice A n c] W fun e w' => e = .returned (.tuple #[.int .i64 (lSum g n), .int .i64 (Cm.lErr g n)]) ∧ W = w' := by
    intro W hW
    by_cases h12 : n ≤ 12
    · exact lensErr_small W hW h12
    · have e1 : Cm.lErr g n = 2 := by unfold Cm.lErr; rw [if_pos (by omega)]
      have e2 : lSum g n = 0 := by unfold lSum; rw [if_neg (by rw [e1]; decide)]
      rw [e1, e2]
      exact lensErr_large W (by omega)
  go_enter Try.func4, Try.ntmps4
  go_wp2_with fail
  with_reducible refine (Sum_any _ h hc hn).mono ?_
  rintro e w1 ⟨rfl, hb1⟩
  have H1 := hid (h.keep hb1)
  go_wp2_with fail
  with_reducible refine (Make_any _ H1.out hc hn).mono ?_
  rintro e w2 ⟨⟨A2, m, c2, rfl, hc2, hr2, z2, f2⟩, hb2⟩
  have H2 := hid (H1.out.keep hb2)
  go_wp2_with fail
  with_reducible refine (hL _ H2.out).mono ?_
  rintro e w3 ⟨rfl, rfl⟩
  have HB2 := hid (bl_then hb1 hb2)
  have R2 := hid hr2
  clear h hb1 hb2 H1 hL hr2
  have hee : (Cm.lErr g n != Cm.lErr g n) = false := by simp
  have hss : (lSum g n != lSum g n) = false := by simp
  by_cases he : Cm.lErr g n = 0
  · obtain ⟨h12, hg⟩ := lErr_zero.1 he
    have hsum : lSum g n = (Cm.tot (Cm.ln g) n : Nat) := by unfold lSum; rw [if_pos he]
    have hmE : mErr g n = if 4096 < Cm.tot (Cm.ln g) n then 4 else 0 := by unfold mErr; rw [if_neg (by simpa using he)]
    have hC := CodesOf_ok (c := c) w2 H2.out h12 hg
    rw [hsum] at hss
    rw [he] at hee
    rw [he, hsum]
    have htl := Cm.tot_le (Cm.ln g) n
    have hCw : ∀ j, j < n → True := fun _ _ => trivial
    by_cases ht : Cm.tot (Cm.ln g) n ≤ 4096
    · have hm0 : mErr g n = 0 := by rw [hmE, if_neg (by omega)]
      obtain rfl : m = n := f2 hm0
      rw [hm0]
      clear f2 z2 hmE hm0 he hsum hg
      generalize Cm.tot (Cm.ln g) m = tt at hss htl ht hC
      have ht' : decide ((4096 : Int) < (tt : Int)) = false := decide_eq_false (by omega)
      have htn : decide (4096 < tt) = false := decide_eq_false (by omega)
      go_wp2_with fail
      with_reducible refine hC.mono ?_
      rintro e w4 ⟨h4, hb4⟩
      obtain ⟨_, rfl, hr4⟩ : tt ≤ 4096 ∧ e = .returned (.tuple #[.slice (some ⟨w2.heap.size, 0, none⟩) m m, .bool true]) ∧ w4.rowIs w2.heap.size 9 m (fun j => .string (mkS (Cm.cw (Cm.ln g) m j))) := by
        rcases h4 with h4 | h4
        · exact h4
        · omega
      have R4 : Hid (SRow w4 (some ⟨w2.heap.size, 0, none⟩) m (fun j => mkS (Cm.cw (Cm.ln g) m j))) := fun k hk => ⟨w2.heap.size, 0, rfl, hr4.lt, by rw [Nat.zero_add]; exact hr4.cell hk⟩
      have R2' := hid (R2.out.keep hb4)
      have HB4 := hid (bl_then HB2.out hb4)
      clear h4 hr4 hb4 hC HB2 R2
      go_wp2_with fail
      with_reducible refine (salike_any R2'.out R4.out hn hn true (decide_eq_true rfl).symm).mono ?_
      rintro e w5 ⟨rfl, hd⟩
      have HB5 := hid (HB4.out.trans (hd.below _))
      clear hd HB4 R4 R2'
      go_wp2
      go_ret
      exact ⟨rfl, HB5.out⟩
    · have hm0 : mErr g n = 4 := by rw [hmE, if_pos (by omega)]
      obtain rfl : m = 0 := z2 (by rw [hm0]; decide)
      rw [hm0]
      clear f2 z2 hmE hm0 he hsum hg R2
      generalize Cm.tot (Cm.ln g) n = tt at hss htl ht hC
      have ht' : (4096 : Int) < (tt : Int) := by omega
      go_wp2_with fail
      with_reducible refine hC.mono ?_
      rintro e w4 ⟨h4, hb4⟩
      obtain ⟨_, rfl⟩ : 4096 < tt ∧ e = .returned (.tuple #[.slice none 0 0, .bool false]) := by
        rcases h4 with h4 | h4
        · omega
        · exact h4
      have HB4 := hid (bl_then HB2.out hb4)
      clear h4 hb4 hC HB2
      go_wp2
      go_ret
      exact ⟨rfl, HB4.out⟩
  · have hmE : mErr g n = Cm.lErr g n := by unfold mErr; rw [if_pos he]
    obtain rfl : m = 0 := z2 (by rw [hmE]; exact he)
    rw [hmE]
    have hne : (Cm.lErr g n != 0) = true := bne_iff_ne.2 he
    have heq : (Cm.lErr g n == Cm.lErr g n) = true := by simp
    clear f2 z2 hmE R2 H2
    generalize Cm.lErr g n = er at *
    generalize lSum g n = sm at *
    go_wp2
    go_ret
    exact ⟨rfl, HB2.out⟩
end Go.Proofs.Ytpjhmmoncbghdaa
