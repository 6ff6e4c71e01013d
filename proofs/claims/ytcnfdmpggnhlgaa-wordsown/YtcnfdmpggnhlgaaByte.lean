/-
The contracts of cmp.Compare at byte, of the trie's comparison of a node with a byte, and of the binary search for a byte among nodes.
-/
import Derived.Test.YtcnfdmpggnhlgaaStr
namespace Go.Proofs.Ytcnfdmpggnhlgaa
open Go.RowKit

theorem isNaN_byte (x : Int) (w : World) : Calls Try.prog 152 #[.int .u8 x] w fun e w' => e = .returned (.bool false) ∧ w = w' := by
  go_enter Try.func152, Try.ntmps152
  go_wp2
  go_ret
  exact ⟨rfl, rfl⟩
theorem ret_ib {k : Int} {a b : Bool} (h : a = b) : Ending.returned (.tuple #[.int .i64 k, .bool a]) = .returned (.tuple #[.int .i64 k, .bool b]) := by rw [h]
/-- -1, 0 or 1. -/
def cmpB (x y : Int) : Int := if x < y then -1 else if y < x then 1 else 0
theorem compare_byte (x y : Int) (w : World) : Calls Try.prog 141 #[.int .u8 x, .int .u8 y] w fun e w' => e = .returned (.int .i64 (cmpB x y)) ∧ w = w' := by
  go_enter Try.func141, Try.ntmps141
  go_wp2_with fail
  with_reducible refine (isNaN_byte x _).mono ?_
  rintro e w1 ⟨rfl, rfl⟩
  go_wp2_with fail
  with_reducible refine (isNaN_byte y _).mono ?_
  rintro e w1 ⟨rfl, rfl⟩
  by_cases h1 : x < y
  · go_wp2
    go_ret
    exact ⟨ret_int (by unfold cmpB; repeat' split; all_goals omega), rfl⟩
  · by_cases h2 : y < x
    · go_wp2
      go_ret
      exact ⟨ret_int (by unfold cmpB; repeat' split; all_goals omega), rfl⟩
    · go_wp2
      go_ret
      exact ⟨ret_int (by unfold cmpB; repeat' split; all_goals omega), rfl⟩
/-- A node against a byte. -/
theorem node_cmp (b : Nat) (x y : Int) (w : World) (hc : w.cell? ⟨b, 0, none⟩ = some (.int .u8 x)) :
    Calls Try.prog 140 #[.pointer (some ⟨b, 0, none⟩), .int .u8 y] w fun e w' => e = .returned (.int .i64 (cmpB x y)) ∧ w = w' := by
  go_enter Try.func140, Try.ntmps140
  go_wp2_with fail
  with_reducible refine (compare_byte x y _).mono ?_
  rintro e w1 ⟨rfl, rfl⟩
  go_wp2
  go_ret
  exact ⟨rfl, rfl⟩

theorem bsearch (n : Nat) (A : Option Addr) (c : Nat) (f : Nat → Int) (nb : Nat → Nat) (y : Int) (w : World)
    (hrow : ∀ k, k < n → ∃ b o, A = some ⟨b, o, none⟩ ∧ w.cell? ⟨b, o + k, none⟩ = some (.pointer (some ⟨nb k, 0, none⟩)) ∧ w.cell? ⟨nb k, 0, none⟩ = some (.int .u8 (f k)))
    (hn : n ≤ 256) (hs : ∀ i j, i < j → j < n → f i < f j) :
    Calls Try.prog 139 #[.slice A n c, .int .u8 y, .func (.func 140) #[] #[]] w fun e w' =>
      w = w' ∧ ∃ k, k ≤ n ∧ (∀ i, i < k → f i < y) ∧ (∀ i, k ≤ i → i < n → y ≤ f i) ∧ e = .returned (.tuple #[.int .i64 k, .bool (decide (k < n ∧ f k = y))]) := by
  have HR := hid hrow
  have HS := hid hs
  clear hrow hs
  go_enter Try.func139, Try.ntmps139
  go_wp2
  go_loopw [9, 10] (fun i j wr => ∃ lo hi : Nat, lo ≤ hi ∧ hi ≤ n ∧ i = .int .i64 lo ∧ j = .int .i64 hi ∧ wr = w ∧ Hid (∀ i, i < lo → f i < y) ∧ Hid (∀ i, hi ≤ i → i < n → y ≤ f i)) (fun i j _ => (intOf j).toNat - (intOf i).toNat)
  case atStart => exact ⟨0, n, by omega, by omega, rfl, rfl, rfl, hid (fun i hi => by omega), hid (fun i h1 h2 => by omega)⟩
  case round =>
    obtain ⟨lo, hi, h1, h2, rfl, rfl, rfl, HL, HU⟩ := hrel
    by_cases h : lo < hi
    · have hmn : (lo + hi) / 2 < n := by omega
      have hcs := HR.out ((lo + hi) / 2) hmn
      obtain ⟨b, o, rfl, hc1, hc2⟩ := hcs
      clear HR
      by_cases hlt : f ((lo + hi) / 2) < y
      · have H := hid hlt
        clear hlt
        go_wp2_with fail
        with_reducible refine (node_cmp _ _ _ _ hc2).mono ?_
        rintro e w1 ⟨rfl, rfl⟩
        have hcm : cmpB (f ((lo + hi) / 2)) y = -1 := by unfold cmpB; rw [if_pos H.out]
        go_wp2
        go_round
        case measure => simp [intOf]; omega
        case rel =>
          refine ⟨(lo + hi) / 2 + 1, hi, by omega, by omega, by go_num, rfl, trivial, hid (fun i hi' => ?_), HU⟩
          have h3 := H.out
          by_cases e : i = (lo + hi) / 2
          · rw [e]; exact h3
          · have := HS.out i ((lo + hi) / 2) (by omega) hmn
            omega
      · have H := hid hlt
        clear hlt
        go_wp2_with fail
        with_reducible refine (node_cmp _ _ _ _ hc2).mono ?_
        rintro e w1 ⟨rfl, rfl⟩
        have hcm : decide (cmpB (f ((lo + hi) / 2)) y < 0) = false := by have := H.out; unfold cmpB; simp; omega
        go_wp2
        go_round
        case measure => simp [intOf]; omega
        case rel =>
          refine ⟨lo, (lo + hi) / 2, by omega, by omega, rfl, by go_num, trivial, HL, hid (fun i h3 h4 => ?_)⟩
          have h5 := H.out
          by_cases e : i = (lo + hi) / 2
          · rw [e]; omega
          · have := HS.out ((lo + hi) / 2) i (by omega) h4
            omega
    · obtain rfl : lo = hi := by omega
      by_cases hk : lo < n
      · obtain ⟨b, o, rfl, hc1, hc2⟩ := HR.out lo hk
        clear HR
        go_wp2_with fail
        with_reducible refine (node_cmp _ _ _ _ hc2).mono ?_
        rintro e w1 ⟨rfl, rfl⟩
        go_wp2
        go_ret2
        refine ⟨rfl, lo, by omega, HL.out, HU.out, ?_⟩
        have hb : (cmpB (f lo) y == 0) = decide (lo < n ∧ f lo = y) := by
          have : (cmpB (f lo) y = 0) ↔ (lo < n ∧ f lo = y) := by
            unfold cmpB
            repeat' split
            all_goals omega
          by_cases hz : cmpB (f lo) y = 0
          · rw [decide_eq_true (this.1 hz), hz]; rfl
          · rw [decide_eq_false (fun h => hz (this.2 h)), beq_eq_false_iff_ne.2 hz]
        exact ret_ib hb
      · have hk' : decide (lo < n) = false := decide_eq_false hk
        go_wp2
        go_ret2
        refine ⟨rfl, lo, by omega, HL.out, HU.out, ?_⟩
        exact ret_ib (decide_eq_false (fun h => hk h.1)).symm
end Go.Proofs.Ytcnfdmpggnhlgaa
