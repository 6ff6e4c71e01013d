
/-
The contract of suffix.shared: how many bytes two strings begin alike with.
-/
import Derived.Test.YtejcijlmpiiffaaWordB
import Derived.Test.YtejcijlmpiiffaaMathAll
import Derived.Test.YtejcijlmpiiffaaStr
import Derived.Test.YtejcijlmpiiffaaLst
import Derived.Deep.RegionHeld3
namespace Go.Proofs.Ytejcijlmpiiffaa
open Go.RowKit

/-- What is written when the numbers g 0, g 1, .. are stored up to i. -/
def fillG (g : Nat → Int) (i j : Nat) : Int := if j < i then g j else 0
theorem fillG_lt {g : Nat → Int} {i j : Nat} (h : j < i) : fillG g i j = g j := by unfold fillG; rw [if_pos h]
theorem fillG_succ (g : Nat → Int) (i j : Nat) : fillG g (i + 1) j = if j = i then g i else fillG g i j := by
  unfold fillG
  by_cases h : j = i
  · subst h; simp
  · rw [if_neg h]
    by_cases h2 : j < i
    · rw [if_pos h2, if_pos (by omega)]
    · rw [if_neg h2, if_neg (by omega)]
theorem fill_store {w wr : World} {g : Nat → Int} {b B n i : Nat} {t : TypeId} {v : Int} (hrow : wr.rowIs b t n (fun j => .int .i64 (fillG g i j))) (hbel : Below B w wr) (hB : B ≤ b) (hv : v = g i) :
    ∀ d, ((wr.drewN d).setCell ⟨b, i, none⟩ (.int .i64 v)).rowIs b t n (fun j => .int .i64 (fillG g (i + 1) j)) ∧ Below B w ((wr.drewN d).setCell ⟨b, i, none⟩ (.int .i64 v)) := by
  intro d
  refine ⟨(World.rowIs.set (w := wr.drewN d) hrow i _).congr fun j _ => ?_, (bl_drewN hbel d).setCell hB _⟩
  rw [fillG_succ]
  by_cases h : j = i
  · rw [if_pos h, if_pos h, hv]
  · rw [if_neg h, if_neg h]

end Go.Proofs.Ytejcijlmpiiffaa
