/-
The walk of quillkeep.WordBorders: it returns true for every string.
-/
import Derived.Test.YtihidlcepdpjoaaWords
import Derived.Test.YtihidlcepdpjoaaRefWord
namespace Go.Proofs.Ytihidlcepdpjoaa
open Go.RowKit

theorem wordBorders_large (s : ByteArray) (w : World) (hs : 200 < s.size) :
    Calls Try.prog 7 #[.string s] w fun e w' => e = .returned (.bool true) ∧ Below w.heap.size w w' := by
  go_enter Try.func7, Try.ntmps7
  go_wp2_with fail
  with_reducible refine (words_any _).mono ?_
  rintro e w1 ⟨rfl, hb1⟩
  go_wp2_with fail
  with_reducible refine (Borders_large s _ hs).mono ?_
  rintro e w2 ⟨rfl, rfl⟩
  go_wp2_with fail
  with_reducible refine (Periods_large s _ hs).mono ?_
  rintro e w2 ⟨rfl, rfl⟩
  go_wp2
  go_ret
  exact ⟨rfl, hb1⟩
theorem wordBorders_empty (s : ByteArray) (w : World) (h0 : s.size = 0) :
    Calls Try.prog 7 #[.string s] w fun e w' => e = .returned (.bool true) ∧ Below w.heap.size w w' := by
  have hs : s.size ≤ 200 := by omega
  have he := no_bytes h0
  have hp : perL s s.size = [] := by rw [h0]; rfl
  have HP := hid hp
  have H0 := hid h0
  clear hp h0
  go_enter Try.func7, Try.ntmps7
  go_wp2_with fail
  with_reducible refine (words_any _).mono ?_
  rintro e w1 ⟨rfl, hb1⟩
  go_wp2_with fail
  with_reducible refine (Borders_ok s _ hs).mono ?_
  rw [H0.out]
  rintro e w2 ⟨A2, c2, rfl, _, hb2⟩
  go_wp2_with fail
  with_reducible refine (Periods_ok s _ hs).mono ?_
  rw [HP.out]
  rintro e w3 ⟨A3, c3, rfl, _, hb3⟩
  go_wp2
  go_ret
  exact ⟨rfl, bl_then (bl_then hb1 hb2) hb3⟩

theorem drop_get {l : List Int} {m : Nat} {x : Int} {t : List Int} (h : l.drop m = x :: t) : m < l.length ∧ l.getD m 0 = x ∧ l.drop (m + 1) = t := by
  have h1 : m < l.length := by
    rcases Nat.lt_or_ge m l.length with h1 | h1
    · exact h1
    · rw [List.drop_eq_nil_of_le h1] at h; cases h
  rw [List.drop_eq_getElem_cons h1] at h
  injection h with h2 h3
  exact ⟨h1, by rw [List.getD_eq_getElem?_getD, List.getElem?_eq_getElem h1]; exact h2, h3⟩

set_option maxHeartbeats 1000000 in
theorem wordBorders_ok (s : ByteArray) (w : World) (hs : s.size ≤ 200) (h0 : 0 < s.size) :
    Calls Try.prog 7 #[.string s] w fun e w' => e = .returned (.bool true) ∧ Below w.heap.size w w' := by
  have he := some_bytes h0
  have hlen := perL_len s s.size
  obtain ⟨P, hP⟩ : ∃ P, P = perL s s.size := ⟨_, rfl⟩
  rw [← hP] at hlen
  have HP := hid hP
  clear hP
  go_enter Try.func7, Try.ntmps7
  go_wp2_with fail
  with_reducible refine (words_any _).mono ?_
  rintro e w1 ⟨rfl, hb1⟩
  go_wp2_with fail
  with_reducible refine (Borders_ok s _ hs).mono ?_
  rintro e w2 ⟨A2, c2, rfl, hr2, hb2⟩
  have R2 := hid hr2
  clear hr2
  go_wp2_with fail
  with_reducible refine (Periods_ok s _ hs).mono ?_
  rw [← HP.out]
  rintro e w3 ⟨A3, c3, rfl, hr3, hb3⟩
  have R3 := hid hr3
  have R2' := hid (R2.out.keep hb3)
  have hb := hid (bl_then (bl_then hb1 hb2) hb3)
  clear hr3 R2 hb1 hb2 hb3
  obtain ⟨b2, o2, rfl, _, hc2⟩ := R2'.out.at_ (k := s.size - 1) (by omega)
  rw [show s.size - 1 + 1 = s.size by omega] at hc2
  go_wp2
  clear hc2
  go_loopw [7, 8] (fun x y wr => ∃ k m : Nat, k < s.size ∧ x = .int .i64 k ∧ y = .int .i64 m ∧ Hid (Wm.Bd (byt s) s.size k) ∧ Hid (P.drop m = ((s.size - k : Nat) : Int) :: perL s k) ∧ ∃ d, wr = w3.drewN d) (fun x _ _ => (intOf x).toNat)
  case atStart =>
    have hl := Wm.lb_lt (byt s) h0
    refine ⟨Wm.lb (byt s) s.size, 0, hl, rfl, rfl, Wm.lb_bd _ _, ?_, 0, rfl⟩
    show P.drop 0 = _
    rw [List.drop_zero, HP.out, perL_jump (Wm.bd_self _ _) h0, show (s.size : Int) - (Wm.lb (byt s) s.size : Int) = ((s.size - Wm.lb (byt s) s.size : Nat) : Int) by omega]
  case round =>
    obtain ⟨k, m, hk, rfl, rfl, hbd, hdr, d, rfl⟩ := hrel
    obtain ⟨hm, hg, hdr2⟩ := drop_get hdr.out
    obtain ⟨b3, o3, rfl, _, hc3⟩ := R3.out.at_ hm
    rw [hg] at hc3
    have HD := hid hdr2
    clear hg hdr2
    have e1 : (s.size : Int) - (k : Int) = ((s.size - k : Nat) : Int) := by omega
    have hm' : (m : Int) < (P.length : Int) := by omega
    have hk' : (k : Int) < (s.size : Int) := by omega
    by_cases hk0 : 0 < k
    · obtain ⟨b2', o2', hbo, _, hc2⟩ := R2'.out.at_ (k := k - 1) (by omega)
      obtain ⟨rfl, rfl⟩ : b2 = b2' ∧ o2 = o2' := by injection hbo with hbo; injection hbo with h1 h2; exact ⟨h1, h2⟩
      rw [show k - 1 + 1 = k by omega] at hc2
      have hcmp := beq_true ((bd_cmp (s := s) (n := s.size) (by omega) (Nat.le_refl _)).2 hbd.out)
      have HB := hid (Wm.bd_trans hbd.out (Wm.lb_bd (byt s) k))
      have hl := Wm.lb_lt (byt s) hk0
      have hj := perL_jump hbd.out hk0
      rw [show (s.size : Int) - (Wm.lb (byt s) k : Int) = ((s.size - Wm.lb (byt s) k : Nat) : Int) by omega] at hj
      have HJ := hid hj
      have hd1 : decide (s.size ≤ k) = false := by simp; omega
      have hd2 : decide (P.length ≤ m) = false := by simp; omega
      have hw : IntKind.i64.wrap ((s.size - k : Nat) : Int) = ((s.size - k : Nat) : Int) := IntWalk.i64_in _ (by omega)
      clear hbo hj
      go_wp2
      go_quiet (fail)
      go_wp2
      go_roundw
      case rel => exact ⟨_, m + 1, by omega, rfl, by go_num, HB.out, by rw [HD.out]; exact HJ.out, _, rfl⟩
      case measure => simp [intOf]; omega
    · have hpl : P.length = m + 1 := by
        have h1 := HD.out
        obtain rfl : k = 0 := by omega
        have h2 := congrArg List.length h1
        rw [List.length_drop, perL_zero, List.length_nil] at h2
        omega
      have e2 : s.size - k = s.size := by omega
      rw [e2] at hc3
      have hpl' : ((P.length : Int) == (m : Int) + 1) = true := by rw [beq_iff_eq]; omega
      clear hpl e2 e1
      go_wp2
      go_ret
      exact ⟨rfl, bl_drewN hb.out _⟩

theorem wordBorders_walk (s : ByteArray) (_ : s.size ≤ maxLen) (w : World) :
    Calls Try.prog 7 #[.string s] w fun e w' => e = .returned (.bool true) ∧ Below w.heap.size w w' := by
  by_cases hs : s.size ≤ 200
  · by_cases h0 : 0 < s.size
    · exact wordBorders_ok s w hs h0
    · exact wordBorders_empty s w (by omega)
  · exact wordBorders_large s w (by omega)
end Go.Proofs.Ytihidlcepdpjoaa
