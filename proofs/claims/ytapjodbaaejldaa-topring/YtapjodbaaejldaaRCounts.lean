
/-
The contracts of ring.wordCounts, ring.Rings and ring.Words.
-/
import Derived.Test.YtapjodbaaejldaaRCheck
namespace Go.Proofs.Ytapjodbaaejldaa
open Go.RowKit

theorem row_store {w wr : World} {B N i : Nat} {t : TypeId} {v : Int} {f g : Nat → Int} (hrow : wr.rowIs B t N (fun j => .int .i64 (f j))) (hbel : Below B w wr) (hg : ∀ j, j < N → g j = if j = i then v else f j) :
    ∀ d, ((wr.drewN d).setCell ⟨B, i, none⟩ (.int .i64 v)).rowIs B t N (fun j => .int .i64 (g j)) ∧ Below B w ((wr.drewN d).setCell ⟨B, i, none⟩ (.int .i64 v)) := by
  intro d
  refine ⟨(World.rowIs.set (w := wr.drewN d) hrow i _).congr fun j hj => ?_, (bl_drewN hbel d).setCell (Nat.le_refl _) _⟩
  rw [hg j hj]
  by_cases h : j = i
  · rw [if_pos h, if_pos h]
  · rw [if_neg h, if_neg h]
theorem i64_of {a : Int} (h1 : -1000000 ≤ a) (h2 : a ≤ 1000000) : IntKind.i64.wrap a = a := IntWalk.i64_in _ (by omega)
end Go.Proofs.Ytapjodbaaejldaa
