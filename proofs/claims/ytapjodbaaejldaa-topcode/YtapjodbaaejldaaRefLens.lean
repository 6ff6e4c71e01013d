
/-
The contract of quillref.LensErr.
-/
import Derived.Test.YtapjodbaaejldaaBase
import Derived.Test.YtapjodbaaejldaaMathAll
namespace Go.Proofs.Ytapjodbaaejldaa
open Go.RowKit

/-- What the lengths sum up to, as the program tells it. -/
def lSum (g : Nat → Int) (n : Nat) : Int := if Cm.lErr g n = 0 then (Cm.tot (Cm.ln g) n : Nat) else 0
theorem shiftI {x : Int} (h1 : 1 ≤ x) (h2 : x ≤ 12) : (4096 : Int) / 2 ^ x.toNat = ((2 ^ (12 - x.toNat) : Nat) : Int) := by
  rw [← Cm.shift12 h1 h2, Int.natCast_ediv, Int.natCast_pow]
  rfl
theorem pow_small (n : Nat) : 2 ^ (12 - n) ≤ 4096 := Nat.pow_le_pow_right (n := 2) (i := 12 - n) (j := 12) (by omega) (by omega)
end Go.Proofs.Ytapjodbaaejldaa
