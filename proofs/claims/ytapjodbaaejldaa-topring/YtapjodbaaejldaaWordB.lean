
/-
The contracts of word.Check and word.Borders.
-/
import Derived.Test.YtapjodbaaejldaaBorders
namespace Go.Proofs.Ytapjodbaaejldaa
open Go.RowKit

theorem check_ok (s : ByteArray) (w : World) (hs : s.size ≤ 200) : Calls Try.prog 69 #[.string s] w fun e w' => e = .returned (.int .i64 0) ∧ w = w' := by
  go_enter Try.func69, Try.ntmps69
  go_wp2
  go_ret
  exact ⟨rfl, rfl⟩
theorem check_large (s : ByteArray) (w : World) (hs : 200 < s.size) : Calls Try.prog 69 #[.string s] w fun e w' => e = .returned (.int .i64 2) ∧ w = w' := by
  go_enter Try.func69, Try.ntmps69
  go_wp2
  go_ret
  exact ⟨rfl, rfl⟩

/-- A slice of n numbers in new memory, and no error. -/
def RetIntsOk (n : Nat) (g : Nat → Int) (w : World) (e : Ending) (w' : World) : Prop :=
  ∃ A c, e = .returned (.tuple #[.slice A n c, .int .i64 0]) ∧ IRow w' A n g ∧ Below w.heap.size w w'

theorem Borders_ok (s : ByteArray) (w : World) (hs : s.size ≤ 200) :
    Calls Try.prog 87 #[.string s] w (RetIntsOk s.size (fun k => (Wm.lb (byt s) (k + 1) : Int)) w) := by
  go_enter Try.func87, Try.ntmps87
  go_wp2_with fail
  with_reducible refine (check_ok s _ hs).mono ?_
  rintro e w1 ⟨rfl, rfl⟩
  go_wp2_with fail
  with_reducible refine (borders_any s _ hs).mono ?_
  rintro e w1 ⟨A, c, rfl, hrow, hbel⟩
  have HR := hid hrow
  clear hrow
  go_wp2
  go_ret2
  exact ⟨_, _, rfl, HR.out, hbel⟩
theorem Borders_large (s : ByteArray) (w : World) (hs : 200 < s.size) :
    Calls Try.prog 87 #[.string s] w fun e w' => e = .returned (.tuple #[.slice none 0 0, .int .i64 2]) ∧ w = w' := by
  go_enter Try.func87, Try.ntmps87
  go_wp2_with fail
  with_reducible refine (check_large s _ hs).mono ?_
  rintro e w1 ⟨rfl, rfl⟩
  go_wp2
  go_ret2
  exact ⟨rfl, rfl⟩
end Go.Proofs.Ytapjodbaaejldaa
