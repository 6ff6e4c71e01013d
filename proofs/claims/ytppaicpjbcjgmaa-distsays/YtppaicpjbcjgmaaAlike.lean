
/-
The contract of quilllaw.alike at slices of int.
-/
import Derived.Test.YtppaicpjbcjgmaaEqual
namespace Go.Proofs.Ytppaicpjbcjgmaa
open Go.RowKit

theorem alike_any {A1 A2 : Option Addr} {n m c1 c2 : Nat} {g1 g2 : Nat → Int} {w : World} (h1 : IRow w A1 n g1) (h2 : IRow w A2 m g2) (hn : n ≤ maxLen) (hm : m ≤ maxLen) :
    Calls Try.prog 15 #[.slice A1 n c1, .slice A2 m c2] w fun e w' => e = .returned (.bool (eqB n m g1 g2)) ∧ Drew w w' := by
  have H1 := hid h1
  have H2 := hid h2
  clear h1 h2
  go_enter Try.func15, Try.ntmps15
  go_wp2_with fail
  with_reducible refine (equal_any H1.out H2.out hn hm).mono ?_
  rintro e w1 ⟨rfl, hd⟩
  have HD := hid hd
  clear hd
  go_wp2
  go_ret
  exact ⟨rfl, HD.out⟩
end Go.Proofs.Ytppaicpjbcjgmaa
