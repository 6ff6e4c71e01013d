
/-
The contracts of package word's exported functions.
-/
import Derived.Test.YtapjodbaaejldaaPeriods
import Derived.Test.YtapjodbaaejldaaWordB
namespace Go.Proofs.Ytapjodbaaejldaa
open Go.RowKit

/-- The length of the root of s (not empty). -/
def rootLen (s : ByteArray) : Nat := if s.size % (s.size - Wm.lb (byt s) s.size) = 0 then s.size - Wm.lb (byt s) s.size else s.size
theorem rootLen_root {s : ByteArray} (h : 0 < s.size) : Wm.Root (byt s) s.size (rootLen s) := Wm.root_least h
theorem rootLen_le {s : ByteArray} (h : 0 < s.size) : 0 < rootLen s ∧ rootLen s ≤ s.size := ⟨(rootLen_root h).pos, (rootLen_root h).le h⟩
theorem perL_head {s : ByteArray} (h : 0 < s.size) : 0 < (perL s s.size).length ∧ (perL s s.size).getD 0 0 = (s.size : Int) - (Wm.lb (byt s) s.size : Int) := by
  rw [perL_jump (Wm.bd_self _ _) h]
  exact ⟨by simp, by simp⟩

theorem rootLength_any (s : ByteArray) (w : World) (hs : s.size ≤ 200) (h0 : 0 < s.size) :
    Calls Try.prog 84 #[.string s] w fun e w' => e = .returned (.int .i64 (rootLen s)) ∧ Below w.heap.size w w' := by
  have hp := perL_head h0
  have hl := Wm.lb_lt (byt s) h0
  obtain ⟨m, hm⟩ : ∃ m, m = Wm.lb (byt s) s.size := ⟨_, rfl⟩
  have HM := hid hm
  rw [← hm] at hl hp
  obtain ⟨hp1, hp2⟩ := hp
  have HP := hid hp2
  have hfin : ((rootLen s : Nat) : Int) = if (s.size : Int) % ((s.size : Int) - (m : Int)) = 0 then (s.size : Int) - (m : Int) else s.size := by
    unfold rootLen
    rw [← hm]
    have e1 : (s.size : Int) - (m : Int) = ((s.size - m : Nat) : Int) := by omega
    rw [e1]
    by_cases h : s.size % (s.size - m) = 0
    · rw [if_pos h, if_pos (by rw [← Int.natCast_emod, h]; rfl)]
    · rw [if_neg h, if_neg (by rw [← Int.natCast_emod]; omega)]
  have HF := hid hfin
  clear hm hp2 hfin
  go_enter Try.func84, Try.ntmps84
  go_wp2_with fail
  with_reducible refine (periods_any s _ hs).mono ?_
  rintro e w1 ⟨A, c, rfl, hrow, hbel⟩
  obtain ⟨b, o, rfl, hb, hc⟩ := hrow.at_ hp1
  have HR := hid hrow
  clear hrow hb
  rw [HP.out, Nat.add_zero] at hc
  by_cases hd : (s.size : Int) % ((s.size : Int) - (m : Int)) = 0
  · have hd' : ((s.size : Int) % ((s.size : Int) - (m : Int)) == 0) = true := by rw [hd]; rfl
    have HD := hid hd
    clear hd
    go_wp2
    go_ret
    exact ⟨ret_int (by rw [HF.out, if_pos HD.out]), hbel⟩
  · have hd' : ((s.size : Int) % ((s.size : Int) - (m : Int)) == 0) = false := by rw [beq_eq_false_iff_ne]; exact hd
    have HD := hid hd
    clear hd
    go_wp2
    go_ret
    exact ⟨ret_int (by rw [HF.out, if_neg HD.out]), hbel⟩

theorem Root_large (s : ByteArray) (w : World) (hs : 200 < s.size) :
    Calls Try.prog 44 #[.string s] w fun e w' => e = .returned (.tuple #[.string ByteArray.empty, .int .i64 0, .int .i64 2]) ∧ w = w' := by
  go_enter Try.func44, Try.ntmps44
  go_wp2_with fail
  with_reducible refine (check_large s _ hs).mono ?_
  rintro e w1 ⟨rfl, rfl⟩
  go_wp2
  go_ret3
  exact ⟨rfl, rfl⟩
theorem ret_sii {a : ByteArray} {x x' y : Int} (h : x = x') : Ending.returned (.tuple #[.string a, .int .i64 x, .int .i64 y]) = .returned (.tuple #[.string a, .int .i64 x', .int .i64 y]) := by rw [h]
theorem quo_in {a b : Nat} (ha : a ≤ 200) : wrap64 ((a : Int) / (b : Int)) = ((a / b : Nat) : Int) := by
  have h1 : ((a / b : Nat) : Int) = (a : Int) / (b : Int) := by simp
  have h2 : a / b ≤ a := Nat.div_le_self a b
  rw [← h1]
  clear h1
  generalize a / b = q at *
  exact IntWalk.wrap64_in _ ⟨by omega, by omega⟩
theorem Root_ok (s : ByteArray) (w : World) (hs : s.size ≤ 200) (h0 : 0 < s.size) :
    Calls Try.prog 44 #[.string s] w fun e w' => e = .returned (.tuple #[.string (s.extract 0 (rootLen s)), .int .i64 ((s.size / rootLen s : Nat) : Int), .int .i64 0]) ∧ Below w.heap.size w w' := by
  have hl := rootLen_le h0
  have hne := some_bytes h0
  go_enter Try.func44, Try.ntmps44
  go_wp2_with fail
  with_reducible refine (check_ok s _ hs).mono ?_
  rintro e w1 ⟨rfl, rfl⟩
  go_wp2_with fail
  with_reducible refine (rootLength_any s _ hs h0).mono ?_
  rintro e w1 ⟨rfl, hbel⟩
  go_wp2
  go_quiet (fail)
  go_wp2
  go_ret3
  exact ⟨ret_sii (quo_in hs), bl_drewN hbel _⟩
theorem Root_empty (s : ByteArray) (w : World) (h0 : s.size = 0) :
    Calls Try.prog 44 #[.string s] w fun e w' => e = .returned (.tuple #[.string ByteArray.empty, .int .i64 0, .int .i64 0]) ∧ w = w' := by
  have hs : s.size ≤ 200 := by omega
  have hne : s.toList.isEmpty = true := no_bytes h0
  clear h0
  go_enter Try.func44, Try.ntmps44
  go_wp2_with fail
  with_reducible refine (check_ok s _ hs).mono ?_
  rintro e w1 ⟨rfl, rfl⟩
  go_wp2
  go_ret3
  exact ⟨rfl, rfl⟩
/-- The root of s, and how often it comes. -/
def rootS (s : ByteArray) : ByteArray := if s.size = 0 then ByteArray.empty else s.extract 0 (rootLen s)
def rootN (s : ByteArray) : Int := if s.size = 0 then 0 else ((s.size / rootLen s : Nat) : Int)
theorem Root_any (s : ByteArray) (w : World) (hs : s.size ≤ 200) :
    Calls Try.prog 44 #[.string s] w fun e w' => e = .returned (.tuple #[.string (rootS s), .int .i64 (rootN s), .int .i64 0]) ∧ Below w.heap.size w w' := by
  unfold rootS rootN
  by_cases h : s.size = 0
  · rw [if_pos h, if_pos h]
    refine (Root_empty s w h).mono ?_
    rintro e w' ⟨rfl, rfl⟩
    exact ⟨rfl, Below.refl _ _⟩
  · rw [if_neg h, if_neg h]
    exact Root_ok s w hs (by omega)
end Go.Proofs.Ytapjodbaaejldaa
