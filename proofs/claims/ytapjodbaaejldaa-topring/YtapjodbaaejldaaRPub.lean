
/-
The contracts of ring.Rings and ring.Words.
-/
import Derived.Test.YtapjodbaaejldaaRCounts
namespace Go.Proofs.Ytapjodbaaejldaa
open Go.RowKit

theorem mod_eq (n d : Nat) : (n : Int) % (d : Int) = ((n % d : Nat) : Int) ∧ Int.tmod (n : Int) (d : Int) = ((n % d : Nat) : Int) := by
  refine ⟨by simp, ?_⟩
  rw [Int.tmod_eq_emod_of_nonneg (by omega)]
  simp
end Go.Proofs.Ytapjodbaaejldaa
