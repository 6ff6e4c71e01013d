
/-
The contracts of word.Check and word.Borders.
-/
import Derived.Test.YtejcijlmpiiffaaBorders
namespace Go.Proofs.Ytejcijlmpiiffaa
open Go.RowKit

theorem check_ok (s : ByteArray) (w : World) (hs : s.size ≤ 200) : Calls Try.prog 36 #[.string s] w fun e w' => e = .returned (.int .i64 0) ∧ w = w' := by
  go_enter Try.func36, Try.ntmps36
  go_wp2
  go_ret
  exact ⟨rfl, rfl⟩
theorem check_large (s : ByteArray) (w : World) (hs : 200 < s.size) : Calls Try.prog 36 #[.string s] w fun e w' => e = .returned (.int .i64 2) ∧ w = w' := by
  go_enter Try.func36, Try.ntmps36
  go_wp2
  go_ret
  exact ⟨rfl, rfl⟩

/-- A slice of n numbers in new memory, and no error. -/
def RetIntsOk (n : Nat) (g : Nat → Int) (w : World) (e : Ending) (w' : World) : Prop :=
  ∃ A c, e = .returned (.tuple #[.slice A n c, .int .i64 0]) ∧ IRow w' A n g ∧ Below w.heap.size w w'

end Go.Proofs.Ytejcijlmpiiffaa
