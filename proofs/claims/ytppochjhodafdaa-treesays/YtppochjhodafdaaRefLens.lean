/-
The contract of quillref.LensErr.
-/
import Derived.Test.YtppochjhodafdaaBase
import Derived.Test.YtppochjhodafdaaCodeDefs
namespace Go.Proofs.Ytppochjhodafdaa
open Go.RowKit

/-- What the lengths sum up to, as the program tells it. -/
def lSum (g : Nat → Int) (n : Nat) : Int := if Cm.lErr g n = 0 then (Cm.tot (Cm.ln g) n : Nat) else 0
theorem shiftI {x : Int} (h1 : 1 ≤ x) (h2 : x ≤ 12) : (4096 : Int) / 2 ^ x.toNat = ((2 ^ (12 - x.toNat) : Nat) : Int) := by
  rw [← Cm.shift12 h1 h2, Int.natCast_ediv, Int.natCast_pow]
  rfl
theorem pow_small (n : Nat) : 2 ^ (12 - n) ≤ 4096 := Nat.pow_le_pow_right (n := 2) (i := 12 - n) (j := 12) (by omega) (by omega)
theorem lensErr_large {A : Option Addr} {n c : Nat} (w : World) (hn : 12 < n) :
    Calls Try.prog 13 #[.slice A n c] w fun e w' => e = .returned (.tuple #[.int .i64 0, .int .i64 2]) ∧ w = w' := by
  have h1 : (12 : Int) < (n : Int) := by omega
  go_enter Try.func13, Try.ntmps13
  go_wp2
  go_ret2
  exact ⟨rfl, rfl⟩
theorem lensErr_small {A : Option Addr} {n c : Nat} {g : Nat → Int} (w : World) (h : IRow w A n g) (hn : n ≤ 12) :
    Calls Try.prog 13 #[.slice A n c] w fun e w' => e = .returned (.tuple #[.int .i64 (lSum g n), .int .i64 (Cm.lErr g n)]) ∧ w = w' := by
  have H := hid h
  clear h
  have h1 : decide ((12 : Int) < (n : Int)) = false := decide_eq_false (by omega)
  go_enter Try.func13, Try.ntmps13
  go_wp2
  go_loopw [4, 12] (fun x y wr => ∃ i s : Nat, i ≤ n ∧ x = .int .i64 (s : Int) ∧ y = .int .i64 (i : Int) ∧ s ≤ i * 4096 ∧ Hid (s = Cm.tot (Cm.ln g) i) ∧ Hid (Cm.lnE g i = 0) ∧ wr = w) (fun _ y _ => n - (intOf y).toNat)
  case atStart => exact ⟨0, 0, by omega, rfl, rfl, by omega, rfl, rfl, rfl⟩
  case round =>
    obtain ⟨i, s, hi, rfl, rfl, hs, HS, HE, rfl⟩ := hrel
    by_cases hlt : i < n
    · have hlt' : (i : Int) < (n : Int) := by omega
      obtain ⟨b, o, rfl, _, hc⟩ := H.out i hlt
      have HC : Hid (Cm.lnE g (i + 1) = if g i < 1 ∨ 12 < g i then 1 else 0) := by
        show Cm.lnE g (i + 1) = _
        rw [Cm.lnE, if_neg (by simpa using HE.out)]
      have HT : Hid (Cm.tot (Cm.ln g) (i + 1) = s + 2 ^ (12 - (g i).toNat)) := by
        rw [HS.out]; rfl
      have HF : Hid (∀ (_ : g i < 1 ∨ 12 < g i), lSum g n = 0 ∧ Cm.lErr g n = 1) := by
        intro hx
        have h1 : Cm.lErr g n = 1 := by unfold Cm.lErr; rw [if_neg (by omega)]; exact Cm.lnE_one hlt hx
        exact ⟨by unfold lSum; rw [if_neg (by rw [h1]; decide)], h1⟩
      obtain ⟨x, hx⟩ : ∃ x, x = g i := ⟨_, rfl⟩
      rw [← hx] at hc HC HT HF
      clear hx
      by_cases h2 : x < 1
      · have HF2 := hid (HF.out (.inl h2))
        clear HC HT HF
        go_wp2
        go_ret2
        rw [HF2.out.1, HF2.out.2]
        exact ⟨rfl, rfl⟩
      · have h2' : decide (x < 1) = false := decide_eq_false h2
        by_cases h3 : 12 < x
        · have HF2 := hid (HF.out (.inr h3))
          clear HC HT HF
          go_wp2
          go_ret2
          rw [HF2.out.1, HF2.out.2]
          exact ⟨rfl, rfl⟩
        · have h3' : decide (12 < x) = false := decide_eq_false h3
          have HE2 : Hid (Cm.lnE g (i + 1) = 0) := by rw [HC.out, if_neg (by omega)]; trivial
          have ev := shiftI (x := x) (by omega) (by omega)
          have hv := pow_small x.toNat
          generalize 2 ^ (12 - x.toNat) = v at ev hv HT
          clear HC HF HE
          go_wp2
          go_roundw
          case measure => simp [intOf]; omega
          case rel => exact ⟨i + 1, s + v, by omega, by go_num, by go_num, by omega, HT.out.symm, HE2, by trivial⟩
    · have hdl : decide ((i : Int) < (n : Int)) = false := decide_eq_false (by omega)
      obtain rfl : n = i := by omega
      have f2 : Cm.lErr g n = 0 := by unfold Cm.lErr; rw [if_neg (by omega)]; exact HE.out
      have f1 : lSum g n = (s : Int) := by unfold lSum; rw [if_pos f2, ← HS.out]
      have F1 := hid f1
      have F2 := hid f2
      clear f1 f2
      go_wp2
      go_ret2
      rw [F1.out, F2.out]
      exact ⟨rfl, rfl⟩
end Go.Proofs.Ytppochjhodafdaa
