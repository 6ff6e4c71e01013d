/-
The contracts of package word's exported functions.
-/
import Derived.Test.YtcnfdmpggnhlgaaPeriods
import Derived.Test.YtcnfdmpggnhlgaaWordB
namespace Go.Proofs.Ytcnfdmpggnhlgaa
open Go.RowKit

theorem Periods_ok (s : ByteArray) (w : World) (hs : s.size ≤ 200) :
    Calls Try.prog 62 #[.string s] w (RetIntsOk (perL s s.size).length (fun k => (perL s s.size).getD k 0) w) := by
  go_enter Try.func62, Try.ntmps62
  go_wp2_with fail
  with_reducible refine (check_ok s _ hs).mono ?_
  rintro e w1 ⟨rfl, rfl⟩
  go_wp2_with fail
  with_reducible refine (periods_any s _ hs).mono ?_
  rintro e w1 ⟨A, c, rfl, hrow, hbel⟩
  have HR := hid hrow
  clear hrow
  go_wp2
  go_ret2
  exact ⟨_, _, rfl, HR.out, hbel⟩
theorem Periods_large (s : ByteArray) (w : World) (hs : 200 < s.size) :
    Calls Try.prog 62 #[.string s] w fun e w' => e = .returned (.tuple #[.slice none 0 0, .int .i64 2]) ∧ w = w' := by
  go_enter Try.func62, Try.ntmps62
  go_wp2_with fail
  with_reducible refine (check_large s _ hs).mono ?_
  rintro e w1 ⟨rfl, rfl⟩
  go_wp2
  go_ret2
  exact ⟨rfl, rfl⟩

/-- The length of the root of s (not empty). -/
def rootLen (s : ByteArray) : Nat := if s.size % (s.size - Wm.lb (byt s) s.size) = 0 then s.size - Wm.lb (byt s) s.size else s.size
theorem rootLen_root {s : ByteArray} (h : 0 < s.size) : Wm.Root (byt s) s.size (rootLen s) := Wm.root_least h
theorem rootLen_le {s : ByteArray} (h : 0 < s.size) : 0 < rootLen s ∧ rootLen s ≤ s.size := ⟨(rootLen_root h).pos, (rootLen_root h).le h⟩
theorem perL_head {s : ByteArray} (h : 0 < s.size) : 0 < (perL s s.size).length ∧ (perL s s.size).getD 0 0 = (s.size : Int) - (Wm.lb (byt s) s.size : Int) := by
  rw [perL_jump (Wm.bd_self _ _) h]
  exact ⟨by simp, by simp⟩

end Go.Proofs.Ytcnfdmpggnhlgaa
