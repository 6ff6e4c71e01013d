/-
The contract of quilllaw.alike at strings.
-/
import Derived.Test.YtppochjhodafdaaStrLib
namespace Go.Proofs.Ytppochjhodafdaa
open Go.RowKit
theorem salike_any {A1 A2 : Option Addr} {n m c1 c2 : Nat} {g1 g2 : Nat → ByteArray} {w : World} (h1 : SRow w A1 n g1) (h2 : SRow w A2 m g2) (hn : n ≤ maxLen) (hm : m ≤ maxLen) (b : Bool) (hb : b = decide (rowL g1 n = rowL g2 m)) :
    Calls Try.prog 16 #[.slice A1 n c1, .slice A2 m c2] w fun e w' => e = .returned (.bool b) ∧ Drew w w' := by
  have HB := hid hb
  clear hb
  go_enter Try.func16, Try.ntmps16
  go_wp2_with fail
  with_reducible refine (sequal_any h1 h2 hn hm b HB.out).mono ?_
  rintro e w1 ⟨rfl, hd⟩
  go_wp2
  go_ret
  exact ⟨rfl, hd⟩
end Go.Proofs.Ytppochjhodafdaa
