
/-
The contracts of package code's public functions.
-/
import Derived.Test.YtmgkoliindicgaaCodeF
import Derived.Test.YtmgkoliindicgaaCodeS
namespace Go.Proofs.Ytmgkoliindicgaa
open Go.RowKit
theorem Check_any {A : Option Addr} {n c : Nat} {g : Nat → ByteArray} (w : World) (h : SRow w A n g) (hc : n ≤ c) (_ : n ≤ maxLen) :
    Calls Try.prog 30 #[.slice A n c] w fun e w' => e = .returned (.int .i64 (Cm.cErr (cws g n))) ∧ Below w.heap.size w w' := by
  refine (check_any w h hc).mono ?_
  rintro e w1 ⟨rfl, rfl⟩
  exact ⟨rfl, Below.refl _ _⟩
theorem Front_any {A : Option Addr} {n c : Nat} {g : Nat → ByteArray} (w : World) (h : SRow w A n g) (hc : n ≤ c) (_ : n ≤ maxLen) :
    Calls Try.prog 33 #[.slice A n c] w (AskPost Cm.PF (cws g n) w) := Front_all w h hc
theorem Sole_any {A : Option Addr} {n c : Nat} {g : Nat → ByteArray} (w : World) (h : SRow w A n g) (hc : n ≤ c) (_ : n ≤ maxLen) :
    Calls Try.prog 26 #[.slice A n c] w (AskPost Cm.UD (cws g n) w) := Sole_all w h hc
theorem Sum_any {A : Option Addr} {n c : Nat} {g : Nat → Int} (w : World) (h : IRow w A n g) (_ : n ≤ c) (_ : n ≤ maxLen) :
    Calls Try.prog 51 #[.slice A n c] w fun e w' => e = .returned (.tuple #[.int .i64 (lSum g n), .int .i64 (Cm.lErr g n)]) ∧ Below w.heap.size w w' := by
  refine (sum_any w h).mono ?_
  rintro e w1 ⟨rfl, rfl⟩
  exact ⟨rfl, Below.refl _ _⟩
theorem Make_any {A : Option Addr} {n c : Nat} {g : Nat → Int} (w : World) (h : IRow w A n g) (_ : n ≤ c) (_ : n ≤ maxLen) :
    Calls Try.prog 43 #[.slice A n c] w (MakePost g n w) := make_any w h
end Go.Proofs.Ytmgkoliindicgaa
