/-
The walk of quilllaw.SuffixSays: it returns true for every string.
-/
import Derived.Test.YtcnfdmpggnhlgaaRefSuf
import Derived.Test.YtcnfdmpggnhlgaaUnlike
import Derived.Test.YtcnfdmpggnhlgaaLong
namespace Go.Proofs.Ytcnfdmpggnhlgaa
open Go.RowKit

theorem lst_inj {a b : ByteArray} (h : lst a = lst b) : a = b := by
  unfold lst at h
  cases a; cases b
  simp at h
  rw [h]
theorem quiet_drew {w w' : World} {d x : Nat} (h : Drew (w.drewN (d + x)) w') : ∃ n, w' = w.drewN (d + n) := by
  obtain ⟨q, rfl⟩ := h
  exact ⟨x + q, by rw [World.drewN_drewN, Nat.add_assoc]⟩
theorem suffixSays_large (s : ByteArray) (w : World) (hs : 200 < s.size) :
    Calls Try.prog 3 #[.string s] w fun e w' => e = .returned (.bool true) ∧ Below w.heap.size w w' := by
  go_enter Try.func3, Try.ntmps3
  go_wp2_with fail
  with_reducible refine (Order_large s _ hs).mono ?_
  rintro e w1 ⟨rfl, rfl⟩
  go_wp2_with fail
  with_reducible refine (Common_large s _ hs).mono ?_
  rintro e w1 ⟨rfl, rfl⟩
  go_wp2_with fail
  with_reducible refine (Unlike_large s _ hs).mono ?_
  rintro e w1 ⟨rfl, rfl⟩
  go_wp2_with fail
  with_reducible refine (Twice_large s _ hs).mono ?_
  rintro e w1 ⟨rfl, rfl⟩
  go_wp2_with fail
  with_reducible refine (long_large s w.heap.size _ (new_cell _ _ _) hs).mono ?_
  rintro e w1 ⟨rfl, rfl⟩
  go_wp2
  go_ret
  exact ⟨rfl, bl_new _ _⟩
set_option maxHeartbeats 6000000 in
set_option maxRecDepth 100000 in
theorem suffixSays_ok (s : ByteArray) (w : World) (hs : s.size ≤ 200) :
    Calls Try.prog 3 #[.string s] w fun e w' => e = .returned (.bool true) ∧ Below w.heap.size w w' := by
  go_enter Try.func3, Try.ntmps3
  go_wp2_with fail
  with_reducible refine (Order_ok s _ hs).mono ?_
  rintro e w1 ⟨B1, rfl, hn1, hr1, hb1⟩
  have R1 := hid (irow_of hr1)
  clear hr1
  go_wp2_with fail
  with_reducible refine (Common_ok s _ hs).mono ?_
  rintro e w2 ⟨B2, rfl, hn2, hr2, hb2⟩
  have R1' := hid (R1.out.keep hb2)
  have R2 := hid (irow_of hr2)
  clear hr2 R1
  have HB2 := hid (bl_then hb1 hb2)
  clear hb1 hb2
  go_wp2_with fail
  with_reducible refine (Unlike_ok s _ hs).mono ?_
  rintro e w3 ⟨rfl, hb3⟩
  obtain ⟨Z, hZ⟩ : ∃ Z, Z = (Sm.dl (lst s)).length := ⟨_, rfl⟩
  rw [← hZ]
  have HZ := hid hZ
  clear hZ
  go_wp2_with fail
  with_reducible refine (Twice_ok s _ hs).mono ?_
  rintro e w4 ⟨⟨t, rfl, ht⟩, hb4⟩
  have HT := hid ht
  have hb34 := bl_then hb3 hb4
  have hb5 := bl_then hb34 (bl_new w4 (.cells #[.string s] 9))
  have S1 := hid (R1'.out.keep hb5)
  have S2 := hid (R2.out.keep hb5)
  have HB5 := hid (bl_then HB2.out hb5)
  have hcell := new_cell w4 (.string s) 9
  clear ht hb3 hb4 hb34 hb5 R1' R2 HB2
  go_wp2_with fail
  with_reducible refine (long_ok s w4.heap.size _ hcell hs).mono ?_
  rintro e w5 ⟨rfl, rfl⟩
  generalize w4.alloc (.cells #[.string s] 9) = w5 at *
  clear hcell
  go_wp2_with fail
  with_reducible refine (Ends_ok s _ hs).mono ?_
  rintro e w6 ⟨⟨A, c, rfl, hrow⟩, hb6⟩
  have T1 := hid (S1.out.keep hb6)
  have T2 := hid (S2.out.keep hb6)
  have T3 := hid hrow
  have HB6 := hid (bl_then HB5.out hb6)
  clear S1 S2 hrow hb6 HB5
  go_wp2
  go_loopw [98] (fun y wr => ∃ k : Nat, k ≤ s.size ∧ y = .int .i64 (k : Int) ∧ Drew w6 wr) (fun y _ => s.size - (intOf y).toNat)
  case atStart => exact ⟨0, by omega, rfl, Drew.refl _⟩
  case round =>
    obtain ⟨k, hk, rfl, dd, rfl⟩ := hrel
    by_cases hlt : k < s.size
    · have hlt' : (k : Int) < (s.size : Int) := by omega
      obtain ⟨b, o, hA, _, hcx⟩ := T3.out k hlt
      obtain ⟨b1, o1, hA1, _, hcl⟩ := T1.out k hlt
      obtain ⟨b2, o2, hA2, _, hcc⟩ := T2.out k hlt
      obtain ⟨rfl, rfl⟩ : b1 = B1 ∧ o1 = 0 := by injection hA1 with e; injection e with e1 e2; exact ⟨e1.symm, e2.symm⟩
      obtain ⟨rfl, rfl⟩ : b2 = B2 ∧ o2 = 0 := by injection hA2 with e; injection e with e1 e2; exact ⟨e1.symm, e2.symm⟩
      rw [Nat.zero_add] at hcl hcc
      have hp := sa_size hlt
      have hxs : (mkS (Sm.X (lst s) k)).size = s.size - Sm.sa (lst s) k := by rw [mk_size, Sm.X_len, lst_len]
      unfold sg at hcl
      unfold cg at hcc
      clear hA1 hA2
      by_cases hk0 : k = 0
      · subst hk0
        rw [Sm.C_zero] at hcc
        rw [Nat.add_zero] at hcx
        subst hA
        generalize Sm.sa (lst s) 0 = p at hcl hp hxs
        generalize mkS (Sm.X (lst s) 0) = x at hcx hxs
        have ep : (s.size : Int) - (x.size : Int) = (p : Int) := by omega
        have epw : IntKind.i64.wrap (p : Int) = (p : Int) := IntWalk.i64_in _ (by omega)
        have epp : ((p : Int) != (p : Int)) = false := by simp
        have e00 : ((0 : Int) != 0) = false := by decide
        clear hxs
        go_wp2
        go_quiet (fail)
        go_wp2
        go_roundw
        case measure => simp [intOf]; omega
        case rel => exact ⟨1, by omega, by go_num, Drew.is_ _ _⟩
      · obtain ⟨b', o', hA', _, hcy⟩ := T3.out (k - 1) (by omega)
        subst hA
        obtain ⟨rfl, rfl⟩ : b' = b ∧ o' = o := by injection hA' with e; injection e with e1 e2; exact ⟨e1.symm, e2.symm⟩
        obtain ⟨q, hq⟩ : ∃ q, q = k - 1 := ⟨_, rfl⟩
        have eq1 : (k : Int) - 1 = (q : Int) := by omega
        have eq0 : (0 : Int) ≤ (q : Int) := by omega
        have eq2 : (q : Int) < (s.size : Int) := by omega
        have eqw : IntKind.i64.wrap (q : Int) = (q : Int) := IntWalk.i64_in _ (by omega)
        have hk1 : ((k : Int) == 0) = false := by rw [beq_eq_false_iff_ne]; omega
        have hk2 : (0 : Int) < (k : Int) := by omega
        have hk3 : 0 < k := by omega
        have hk4 : decide (0 < k) = true := decide_eq_true hk3
        rw [← hq] at hcy
        have hyz : (mkS (Sm.X (lst s) q)).size ≤ 1000 := by rw [mk_size, Sm.X_len, lst_len]; omega
        have hAl := fun W => refAlike_lcp (mkS (Sm.X (lst s) q)) (mkS (Sm.X (lst s) k)) W hyz
        have hC : Sm.lcp (lst (mkS (Sm.X (lst s) q))) (lst (mkS (Sm.X (lst s) k))) = Sm.C (lst s) k := by
          rw [lst_mk, lst_mk]
          unfold Sm.C
          rw [if_neg hk0, hq]
        rw [hC] at hAl
        generalize Sm.C (lst s) k = cc at hcc hAl
        generalize Sm.sa (lst s) k = p at hcl hp hxs
        generalize mkS (Sm.X (lst s) k) = x at hcx hxs hAl
        generalize mkS (Sm.X (lst s) q) = y at hcy hyz hAl
        have ep : (s.size : Int) - (x.size : Int) = (p : Int) := by omega
        have epw : IntKind.i64.wrap (p : Int) = (p : Int) := IntWalk.i64_in _ (by omega)
        have epp : ((p : Int) != (p : Int)) = false := by simp
        have ecc : ((cc : Int) != (cc : Int)) = false := by simp
        have HAL := hid hAl
        clear hxs hA' hq hC hAl
        go_wp2
        go_quiet ((go_at_call 15; exact (HAL.out _).mono fun e w' h => ⟨h.1, quiet_drew h.2⟩))
        go_wp2
        go_roundw
        case measure => simp [intOf]; omega
        case rel => exact ⟨k + 1, by omega, by go_num, Drew.is_ _ _⟩
    · have hlt' : decide ((k : Int) < (s.size : Int)) = false := decide_eq_false (by omega)
      have HB7 := hid (bl_drewN HB6.out dd)
      clear HB6 T1 T2 T3
      generalize w6.drewN dd = w7 at *
      go_wp2_with fail
      with_reducible refine (Factors_ok s _ hs).mono ?_
      rintro e w8 ⟨⟨A2, c2, rfl⟩, hb8⟩
      rw [← HZ.out]
      go_wp2_with fail
      with_reducible refine (TwiceOf_ok s _ hs).mono ?_
      rintro e w9 ⟨⟨t2, rfl, ht2⟩, hb9⟩
      obtain rfl : t2 = t := lst_inj (ht2.unique HT.out)
      have HB9 := hid (bl_then (bl_then HB7.out hb8) hb9)
      clear hb8 hb9 ht2 HT HB7
      go_wp2
      go_ret
      exact ⟨rfl, HB9.out⟩
theorem suffixSays_walk (s : ByteArray) (_ : s.size ≤ maxLen) (w : World) :
    Calls Try.prog 3 #[.string s] w fun e w' => e = .returned (.bool true) ∧ Below w.heap.size w w' := by
  by_cases hs : s.size ≤ 200
  · exact suffixSays_ok s w hs
  · exact suffixSays_large s w (by omega)
end Go.Proofs.Ytcnfdmpggnhlgaa
