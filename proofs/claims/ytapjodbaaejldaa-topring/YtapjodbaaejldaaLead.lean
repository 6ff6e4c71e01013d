
/-
The contract of lyndon.lead: the length of the longest Lyndon word at the front, and how often it comes there; of lyndon.isLyndon and lyndon.Is.
-/
import Derived.Test.YtapjodbaaejldaaSRows
import Derived.Test.YtapjodbaaejldaaWordB
namespace Go.Proofs.Ytapjodbaaejldaa
open Go.RowKit

theorem byte_le {s : ByteArray} {i j : Nat} (hi : i < s.size) (hj : j < s.size) (b : Bool) (h : decide (Lm.bn (wd s) i ≤ Lm.bn (wd s) j) = b) : decide ((s[i].toNat : Int) ≤ (s[j].toNat : Int)) = b ∧ decide (s[i].toNat ≤ s[j].toNat) = b := by
  rw [bn_wd, bn_wd, byt_eq hi, byt_eq hj] at h
  exact ⟨by rw [← h]; exact decide_eq_decide.2 (by omega), h⟩
theorem byte_is {s : ByteArray} {i j : Nat} (hi : i < s.size) (hj : j < s.size) (b : Bool) (h : decide (Lm.bn (wd s) i = Lm.bn (wd s) j) = b) : ((s[i].toNat : Int) == (s[j].toNat : Int)) = b := by
  rw [bn_wd, bn_wd, byt_eq hi, byt_eq hj] at h
  rw [← h]
  by_cases hx : s[i].toNat = s[j].toNat
  · rw [hx]; simp
  · rw [decide_eq_false hx]; exact beq_eq_false_iff_ne.2 (by omega)

theorem ret_ii {a b b' : Int} (h : b = b') : Ending.returned (.tuple #[.int .i64 a, .int .i64 b]) = .returned (.tuple #[.int .i64 a, .int .i64 b']) := by rw [h]
theorem quo_in2 {a b : Nat} (ha : a ≤ 1000) : wrap64 ((a : Int) / (b : Int)) = ((a / b : Nat) : Int) := by
  have h1 : ((a / b : Nat) : Int) = (a : Int) / (b : Int) := by simp
  have h2 : a / b ≤ a := Nat.div_le_self _ _
  rw [← h1]
  clear h1
  generalize a / b = q at *
  exact IntWalk.wrap64_in _ ⟨by omega, by omega⟩
def LeadRet (s : ByteArray) (e : Ending) : Prop := ∃ p m : Nat, Lm.Dn (Lm.bn (wd s)) s.size p m ∧ e = .returned (.tuple #[.int .i64 (p : Int), .int .i64 ((m / p : Nat) : Int)])
set_option maxHeartbeats 400000 in
theorem lead_any (s : ByteArray) (w : World) (hs : s.size ≤ 1000) (h0 : 0 < s.size) :
    Calls Try.prog 86 #[.string s] w fun e w' => LeadRet s e ∧ Drew w w' := by
  go_enter Try.func86, Try.ntmps86
  go_wp2
  go_loopw [4, 5] (fun x y wr => ∃ b e : Nat, b < e ∧ e ≤ s.size ∧ x = .int .i64 (b : Int) ∧ y = .int .i64 (e : Int) ∧ Hid (Lm.Dv (Lm.bn (wd s)) s.size (e - b) e) ∧ ∃ d, wr = w.drewN d) (fun _ y _ => s.size - (intOf y).toNat)
  case atStart => exact ⟨0, 1, by omega, by omega, rfl, rfl, hid (Lm.dv_start _ h0), 0, rfl⟩
  case round =>
    obtain ⟨b, e, hbe, hes, rfl, rfl, HD, d, rfl⟩ := hrel
    have hbs : b < s.size := by omega
    have hbs' : (b : Int) < (s.size : Int) := by omega
    by_cases hlt : e < s.size
    · have hlt' : (e : Int) < (s.size : Int) := by omega
      have hdl : decide ((e : Int) < (s.size : Int)) = true := decide_eq_true hlt'
      by_cases hle : Lm.bn (wd s) b ≤ Lm.bn (wd s) e
      · obtain ⟨g1, g2⟩ := byte_le hbs hlt true (decide_eq_true hle)
        by_cases heq : Lm.bn (wd s) b = Lm.bn (wd s) e
        · have g3 := byte_is hbs hlt true (decide_eq_true heq)
          have HE := hid heq
          clear hle heq
          go_wp2
          go_quiet (fail)
          go_wp2
          go_quiet (fail)
          go_wp2
          go_roundw
          case measure => simp [intOf]; omega
          case rel =>
            refine ⟨b + 1, e + 1, by omega, by omega, by go_num, by go_num, ?_, _, rfl⟩
            have := Lm.dv_same HD.out hlt (by rw [show e - (e - b) = b by omega]; exact HE.out)
            rw [show e + 1 - (b + 1) = e - b by omega]
            exact hid this
        · have g3 := byte_is hbs hlt false (decide_eq_false heq)
          have HE := hid (show Lm.bn (wd s) b < Lm.bn (wd s) e by omega)
          clear hle heq
          go_wp2
          go_quiet (fail)
          go_wp2
          go_quiet (fail)
          go_wp2
          go_roundw
          case measure => simp [intOf]; omega
          case rel =>
            refine ⟨0, e + 1, by omega, by omega, by go_num, by go_num, ?_, _, rfl⟩
            exact hid (Lm.dv_more HD.out hlt (by rw [show e - (e - b) = b by omega]; exact HE.out))
      · obtain ⟨g1, g2⟩ := byte_le hbs hlt false (decide_eq_false hle)
        have HF := hid (show Lm.Dn (Lm.bn (wd s)) s.size (e - b) e from ⟨HD.out, .inr (by rw [show e - (e - b) = b by omega]; omega)⟩)
        clear hle HD
        obtain ⟨p, hp⟩ : ∃ p, p = e - b := ⟨_, rfl⟩
        rw [← hp] at HF
        have hpe : (e : Int) - (b : Int) = (p : Int) := by omega
        have hwp : IntKind.i64.wrap (p : Int) = (p : Int) := IntWalk.i64_in _ (by omega)
        have hp0 : ((p : Int) == 0) = false := by rw [beq_eq_false_iff_ne]; omega
        have hpn : (p : Int) ≠ 0 := by omega
        clear hp
        go_wp2
        go_quiet (fail)
        go_wp2
        go_quiet (fail)
        go_wp2
        go_ret2
        exact ⟨⟨p, e, HF.out, ret_ii (quo_in2 (by omega))⟩, (Drew.is_ _ _).more _⟩
    · have hdl : decide ((e : Int) < (s.size : Int)) = false := decide_eq_false (by omega)
      have HF := hid (show Lm.Dn (Lm.bn (wd s)) s.size (e - b) e from ⟨HD.out, .inl (by omega)⟩)
      clear HD
      obtain ⟨p, hp⟩ : ∃ p, p = e - b := ⟨_, rfl⟩
      rw [← hp] at HF
      have hpe : (e : Int) - (b : Int) = (p : Int) := by omega
      have hwp : IntKind.i64.wrap (p : Int) = (p : Int) := IntWalk.i64_in _ (by omega)
      have hp0 : ((p : Int) == 0) = false := by rw [beq_eq_false_iff_ne]; omega
      have hpn : (p : Int) ≠ 0 := by omega
      clear hp
      go_wp2
      go_quiet (fail)
      go_wp2
      go_quiet (fail)
      go_wp2
      go_ret2
      exact ⟨⟨p, e, HF.out, ret_ii (quo_in2 (by omega))⟩, (Drew.is_ _ _).more _⟩
theorem isLyndon_yes (s : ByteArray) (w : World) (hs : s.size ≤ 1000) (h : LynS s) : Calls Try.prog 103 #[.string s] w fun e w' => e = .returned (.bool true) ∧ Drew w w' := by
  have h0 : 0 < s.size := by rw [← wd_len]; exact h.1
  have hne := some_bytes h0
  go_enter Try.func103, Try.ntmps103
  go_wp2_with fail
  with_reducible refine (lead_any s _ hs h0).mono ?_
  rintro e w1 ⟨⟨p, m, hD, rfl⟩, hd⟩
  have hp := hD.whole.2 (by have h := h; unfold LynS Lm.Lyn at h; rwa [wd_len] at h)
  subst hp
  have HD := hid hD
  clear hD
  go_wp2
  go_ret
  exact ⟨rfl, hd⟩
theorem isLyndon_no (s : ByteArray) (w : World) (hs : s.size ≤ 1000) (h : ¬ LynS s) : Calls Try.prog 103 #[.string s] w fun e w' => e = .returned (.bool false) ∧ Drew w w' := by
  by_cases h0 : 0 < s.size
  · have hne := some_bytes h0
    go_enter Try.func103, Try.ntmps103
    go_wp2_with fail
    with_reducible refine (lead_any s _ hs h0).mono ?_
    rintro e w1 ⟨⟨p, m, hD, rfl⟩, hd⟩
    have hp : p ≠ s.size := fun e => h (by have h := hD.whole.1 e; unfold LynS Lm.Lyn; rwa [wd_len])
    have hpe : ((p : Int) == (s.size : Int)) = false := beq_eq_false_iff_ne.2 (by omega)
    have HD := hid hD
    clear hD
    go_wp2
    go_ret
    exact ⟨rfl, hd⟩
  · have hne : s.toList.isEmpty = true := no_bytes (by omega)
    go_enter Try.func103, Try.ntmps103
    go_wp2
    go_ret
    exact ⟨rfl, Drew.refl _⟩
theorem Is_yes (s : ByteArray) (w : World) (hs : s.size ≤ 200) (h : LynS s) : Calls Try.prog 58 #[.string s] w fun e w' => e = .returned (.tuple #[.bool true, .int .i64 0]) ∧ Drew w w' := by
  go_enter Try.func58, Try.ntmps58
  go_wp2_with fail
  with_reducible refine (check_ok s _ hs).mono ?_
  rintro e w1 ⟨rfl, rfl⟩
  go_wp2_with fail
  with_reducible refine (isLyndon_yes s _ (by omega) h).mono ?_
  rintro e w1 ⟨rfl, hd⟩
  go_wp2
  go_ret2
  exact ⟨rfl, hd⟩
theorem Is_no (s : ByteArray) (w : World) (hs : s.size ≤ 200) (h : ¬ LynS s) : Calls Try.prog 58 #[.string s] w fun e w' => e = .returned (.tuple #[.bool false, .int .i64 0]) ∧ Drew w w' := by
  go_enter Try.func58, Try.ntmps58
  go_wp2_with fail
  with_reducible refine (check_ok s _ hs).mono ?_
  rintro e w1 ⟨rfl, rfl⟩
  go_wp2_with fail
  with_reducible refine (isLyndon_no s _ (by omega) h).mono ?_
  rintro e w1 ⟨rfl, hd⟩
  go_wp2
  go_ret2
  exact ⟨rfl, hd⟩
theorem Is_ok (s : ByteArray) (w : World) (hs : s.size ≤ 200) : Calls Try.prog 58 #[.string s] w fun e w' => (∃ b, (b = true ↔ LynS s) ∧ e = .returned (.tuple #[.bool b, .int .i64 0])) ∧ Drew w w' := by
  by_cases h : LynS s
  · exact (Is_yes s w hs h).mono fun e w' k => ⟨⟨true, by simp [h], k.1⟩, k.2⟩
  · exact (Is_no s w hs h).mono fun e w' k => ⟨⟨false, by simp [h], k.1⟩, k.2⟩
theorem Is_large (s : ByteArray) (w : World) (hs : 200 < s.size) : Calls Try.prog 58 #[.string s] w fun e w' => e = .returned (.tuple #[.bool false, .int .i64 2]) ∧ w = w' := by
  go_enter Try.func58, Try.ntmps58
  go_wp2_with fail
  with_reducible refine (check_large s _ hs).mono ?_
  rintro e w1 ⟨rfl, rfl⟩
  go_wp2
  go_ret2
  exact ⟨rfl, rfl⟩
end Go.Proofs.Ytapjodbaaejldaa
