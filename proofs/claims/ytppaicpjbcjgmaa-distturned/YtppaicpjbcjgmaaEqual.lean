
/-
The contract of slices.Equal at slices of int: it answers whether both rows are the same.
-/
import Derived.Test.YtppaicpjbcjgmaaBase
namespace Go.Proofs.Ytppaicpjbcjgmaa
open Go.RowKit

theorem equal_any {A1 A2 : Option Addr} {n m c1 c2 : Nat} {g1 g2 : Nat → Int} {w : World} (h1 : IRow w A1 n g1) (h2 : IRow w A2 m g2) (hn : n ≤ maxLen) (hm : m ≤ maxLen) :
    Calls Try.prog 21 #[.slice A1 n c1, .slice A2 m c2] w fun e w' => e = .returned (.bool (eqB n m g1 g2)) ∧ Drew w w' := by
  unfold maxLen at hn hm
  have H1 := hid h1
  have H2 := hid h2
  clear h1 h2
  by_cases hnm : n = m
  · subst hnm
    go_enter Try.func21, Try.ntmps21
    go_wp2
    go_loopw [13] (fun i wr => ∃ k : Nat, k ≤ n ∧ i = .int .i64 k ∧ Hid (∀ j, j < k → g1 j = g2 j) ∧ ∃ d, wr = w.drewN d) (fun i _ => n - (intOf i).toNat)
    case atStart => exact ⟨0, Nat.zero_le _, rfl, fun j hj => by omega, 0, rfl⟩
    case round =>
      obtain ⟨k, hk, rfl, hj, d, rfl⟩ := hrel
      by_cases hlt : k < n
      · obtain ⟨b1, o1, rfl, hb1, hc1⟩ := H1.out.at_ hlt
        obtain ⟨b2, o2, rfl, hb2, hc2⟩ := H2.out.at_ hlt
        clear hb1 hb2
        by_cases he : g1 k = g2 k
        · have hne : (g1 k != g2 k) = false := by simp [he]
          have HE := hid he
          clear he
          go_wp2
          go_quiet (fail)
          go_wp2
          go_roundw
          case rel => exact ⟨k + 1, by omega, by go_num, fun j hj' => by
            rcases Nat.lt_or_ge j k with h | h
            · exact hj.out j h
            · obtain rfl : j = k := by omega
              exact HE.out, _, rfl⟩
          case measure => simp [intOf]; omega
        · have hne : (g1 k != g2 k) = true := by simp [he]
          have hfin : eqB n n g1 g2 = false := by
            cases hq : eqB n n g1 g2 with
            | false => rfl
            | true => exact absurd ((eqB_true.1 hq).2 k hlt) he
          have HF := hid hfin
          clear he hfin
          go_wp2
          go_quiet (fail)
          go_wp2
          go_ret
          exact ⟨ret_bool HF.out.symm, (Drew.is_ w d).more _⟩
      · have hfin : eqB n n g1 g2 = true := eqB_true.2 ⟨rfl, fun j hj' => hj.out j (by omega)⟩
        have HF := hid hfin
        clear hfin
        go_wp2
        go_ret
        exact ⟨ret_bool HF.out.symm, _, rfl⟩
  · have hfin : eqB n m g1 g2 = false := by
      cases hq : eqB n m g1 g2 with
      | false => rfl
      | true => exact absurd (eqB_true.1 hq).1 hnm
    have HF := hid hfin
    clear hfin
    have hne : ((n : Int) != (m : Int)) = true := by simp; omega
    go_enter Try.func21, Try.ntmps21
    go_wp2
    go_ret
    exact ⟨ret_bool HF.out.symm, 0, rfl⟩
end Go.Proofs.Ytppaicpjbcjgmaa
