
/-
slices.ContainsFunc at the question whether a number is no place; and what the four functions of package front answer, whatever came in.
-/
import Derived.Test.YthebjelkmopboaaFrHelp
import Derived.Test.YthebjelkmopboaaFrRuns
import Derived.Test.YthebjelkmopboaaFrWhole
namespace Go.Proofs.Ythebjelkmopboaa
open Go.RowKit

/-- Is z no place? -/
def badN (z : Int) : Bool := decide (z < 0) || decide (255 < z)
theorem bad_one (z : Int) (w : World) : Calls Try.prog 18 #[.int .i64 z] w fun e w' => e = .returned (.bool (badN z)) ∧ w' = w := by
  by_cases h1 : z < 0
  · have hd1 : decide (z < 0) = true := decide_eq_true h1
    have hb : badN z = true := by unfold badN; rw [hd1]; rfl
    have HB := hid hb
    clear hb
    go_enter Try.func18, Try.ntmps18
    go_wp2
    go_ret
    exact ⟨ret_bool HB.out.symm, rfl⟩
  · have hd1 : decide (z < 0) = false := decide_eq_false h1
    by_cases h2 : 255 < z
    · have hd2 : decide (255 < z) = true := decide_eq_true h2
      have hb : badN z = true := by unfold badN; rw [hd1, hd2]; rfl
      have HB := hid hb
      clear hb
      go_enter Try.func18, Try.ntmps18
      go_wp2
      go_ret
      exact ⟨ret_bool HB.out.symm, rfl⟩
    · have hd2 : decide (255 < z) = false := decide_eq_false h2
      have hb : badN z = false := by unfold badN; rw [hd1, hd2]; rfl
      have HB := hid hb
      clear hb
      go_enter Try.func18, Try.ntmps18
      go_wp2
      go_ret
      exact ⟨ret_bool HB.out.symm, rfl⟩
theorem badN_iff (z : Int) : badN z = true ↔ ¬ (0 ≤ z ∧ z < 256) := by
  unfold badN
  rw [Bool.or_eq_true, decide_eq_true_iff, decide_eq_true_iff]
  omega
theorem bad_index {A : Option Addr} {n c : Nat} {g : Nat → Int} (w : World) (hr : IRow w A n g) (hn : n ≤ 200) :
    Calls Try.prog 30 #[.slice A n c, .func (Fn.func 18) #[] #[]] w fun e w' => (∃ z : Int, e = .returned (.int .i64 z) ∧ (0 ≤ z ↔ ¬ Places g n)) ∧ w' = w := by
  have HR := hid hr
  clear hr
  go_enter Try.func30, Try.ntmps30
  go_wp2
  go_loopw [8] (fun i wr => ∃ k : Nat, k ≤ n ∧ i = .int .i64 (k : Int) ∧ Hid (Places g k) ∧ wr = w) (fun i _ => n - (intOf i).toNat)
  case atStart => exact ⟨0, by omega, rfl, fun j hj => by omega, rfl⟩
  case round =>
    obtain ⟨k, hk, rfl, HA, hw⟩ := hrel
    obtain rfl : w = wr := hw.symm
    by_cases hlt : k < n
    · have hlt' : (k : Int) < (n : Int) := by omega
      obtain ⟨b, o, rfl, hbl, hc⟩ := HR.out k hlt
      obtain ⟨z, hz⟩ : ∃ z, z = g k := ⟨_, rfl⟩
      rw [← hz] at hc
      have hone := bad_one z w
      have hiff := badN_iff z
      have HZ := hid hz
      clear hz hbl
      cases hb : badN z with
      | true =>
        rw [hb] at hone hiff
        have HE : Hid (¬ Places g n) := fun h => hiff.1 rfl (by rw [HZ.out]; exact h k hlt)
        clear hiff hb
        go_wp2_with fail
        with_reducible refine hone.mono ?_
        rintro e w3 ⟨rfl, rfl⟩
        clear hone
        go_wp2
        go_ret
        exact ⟨⟨_, rfl, ⟨fun _ => HE.out, fun _ => by omega⟩⟩, rfl⟩
      | false =>
        rw [hb] at hone hiff
        have HAn : Hid (Places g (k + 1)) := by
          intro j hj
          by_cases e : j = k
          · rw [e, ← HZ.out]
            exact Decidable.byContradiction fun h => absurd (hiff.2 h) (by decide)
          · exact HA.out j (by omega)
        clear hiff hb
        go_wp2_with fail
        with_reducible refine hone.mono ?_
        rintro e w3 ⟨rfl, rfl⟩
        clear hone
        go_wp2
        go_roundw
        case measure => simp [intOf]; omega
        case rel => exact ⟨k + 1, by omega, by go_num, HAn, by trivial⟩
    · have hd : decide ((k : Int) < (n : Int)) = false := decide_eq_false (by omega)
      obtain rfl : n = k := by omega
      have HE : Hid (Places g n) := HA.out
      clear HA
      go_wp2
      go_ret
      exact ⟨⟨_, rfl, ⟨fun h => by omega, fun h => absurd HE.out h⟩⟩, rfl⟩
theorem bad_any {A : Option Addr} {n c : Nat} {g : Nat → Int} (w : World) (hr : IRow w A n g) (hn : n ≤ 200) :
    Calls Try.prog 17 #[.slice A n c, .func (Fn.func 18) #[] #[]] w fun e w' => (∃ b : Bool, e = .returned (.bool b) ∧ (b = true ↔ ¬ Places g n)) ∧ w' = w := by
  have hix := bad_index (c := c) w hr hn
  clear hr
  go_enter Try.func17, Try.ntmps17
  go_wp2_with fail
  with_reducible refine hix.mono ?_
  rintro e w1 ⟨⟨z, rfl, hz⟩, rfl⟩
  have HZ := hid hz
  clear hz hix
  by_cases h0 : 0 ≤ z
  · have hd : decide (0 ≤ z) = true := decide_eq_true h0
    go_wp2
    go_ret
    exact ⟨⟨true, rfl, ⟨fun _ => HZ.out.1 h0, fun _ => rfl⟩⟩, rfl⟩
  · have hd : decide (0 ≤ z) = false := decide_eq_false h0
    go_wp2
    go_ret
    exact ⟨⟨false, rfl, ⟨fun h => absurd h (by decide), fun h => by have := HZ.out.2 h; omega⟩⟩, rfl⟩

/-! ### whatever came in -/
/-- What Put answers, whatever s. -/
def PutAny (s : ByteArray) (w : World) (e : Ending) (w' : World) : Prop :=
  ∃ A n c, ∃ x : Nat, e = .returned (.tuple #[.slice A n c, .int .i64 (x : Int)]) ∧ ((s.size ≤ 200 ∧ x = 0 ∧ n = s.size ∧ IRow w' A n (pg s)) ∨ (200 < s.size ∧ x = 2 ∧ n = 0)) ∧ Below w.heap.size w w'
theorem FPut_any (s : ByteArray) (w : World) : Calls Try.prog 9 #[.string s] w (PutAny s w) := by
  by_cases hs : s.size ≤ 200
  · refine (FPut_ok s w hs).mono ?_
    rintro e w' ⟨A, c, rfl, hrow, hb⟩
    exact ⟨A, s.size, c, 0, rfl, .inl ⟨hs, rfl, rfl, hrow⟩, hb⟩
  · refine (FPut_large s w (by omega)).mono ?_
    rintro e w' ⟨rfl, rfl⟩
    exact ⟨none, 0, 0, 2, rfl, .inr ⟨by omega, rfl, rfl⟩, Below.refl _ _⟩
/-- What Runs answers, whatever s. -/
def RunsAny (s : ByteArray) (w : World) (e : Ending) (w' : World) : Prop :=
  ∃ A n c, ∃ x : Nat, e = .returned (.tuple #[.slice A n c, .int .i64 (x : Int)]) ∧ ((s.size ≤ 200 ∧ x = 0 ∧ n = (Rm.runs (lst s)).length ∧ RRow w' A n (fun k => (Rm.runs (lst s)).getD k (0, 0))) ∨ (200 < s.size ∧ x = 2 ∧ n = 0)) ∧ Below w.heap.size w w'
theorem FRuns_any (s : ByteArray) (w : World) : Calls Try.prog 11 #[.string s] w (RunsAny s w) := by
  by_cases hs : s.size ≤ 200
  · refine (FRuns_ok s w hs).mono ?_
    rintro e w' ⟨v, rfl, hown, hb⟩
    obtain ⟨A, c, rfl, _, hrow⟩ := hown.row
    exact ⟨A, _, c, 0, rfl, .inl ⟨hs, rfl, rfl, hrow⟩, hb⟩
  · refine (FRuns_large s w (by omega)).mono ?_
    rintro e w' ⟨rfl, rfl⟩
    exact ⟨none, 0, 0, 2, rfl, .inr ⟨by omega, rfl, rfl⟩, Below.refl _ _⟩
/-- What Get answers, whatever the numbers. -/
def GetIs (g : Nat → Int) (n : Nat) (t : ByteArray) (x : Nat) : Prop :=
  (200 < n ∧ x = 2 ∧ t.size = 0) ∨ (n ≤ 200 ∧ ¬ Places g n ∧ x = 1 ∧ t.size = 0) ∨ (n ≤ 200 ∧ Places g n ∧ x = 0 ∧ t = mkS (Fm.getL (nl g n)))
theorem FGet_any {A : Option Addr} {n c : Nat} {g : Nat → Int} (w : World) (hr : IRow w A n g) :
    Calls Try.prog 10 #[.slice A n c] w fun e w' => (∃ t, ∃ x : Nat, e = .returned (.tuple #[.string t, .int .i64 (x : Int)]) ∧ GetIs g n t x) ∧ Below w.heap.size w w' := by
  by_cases hn : n ≤ 200
  · refine (FGet_fit w hr hn).mono ?_
    rintro e w' ⟨⟨hp, rfl⟩ | ⟨hp, rfl⟩, hb⟩
    · exact ⟨⟨_, 0, rfl, .inr (.inr ⟨hn, hp, rfl, rfl⟩)⟩, hb⟩
    · exact ⟨⟨_, 1, rfl, .inr (.inl ⟨hn, hp, rfl, rfl⟩)⟩, hb⟩
  · refine (FGet_large w (by omega)).mono ?_
    rintro e w' ⟨rfl, rfl⟩
    exact ⟨⟨_, 2, rfl, .inl ⟨by omega, rfl, rfl⟩⟩, Below.refl _ _⟩
end Go.Proofs.Ythebjelkmopboaa
