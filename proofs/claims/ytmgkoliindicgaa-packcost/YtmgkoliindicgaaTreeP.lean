
/-
What package tree's functions are to leave: words for the contracts.
-/
import Derived.Test.YtmgkoliindicgaaMathAll
import Derived.Test.YtmgkoliindicgaaCodeP
namespace Go.Proofs.Ytmgkoliindicgaa
open Go.RowKit

def LensPost (g : Nat → Int) (n : Nat) (w : World) (e : Ending) (w' : World) : Prop :=
  (∃ A m c, e = .returned (.tuple #[.slice A m c, .int .i64 (Hm.wErr g n)]) ∧ m ≤ c ∧ IRow w' A m (fun k => ((lensF g n k : Nat) : Int)) ∧ (Hm.wErr g n ≠ 0 → m = 0) ∧ (Hm.wErr g n = 0 → m = n)) ∧ Below w.heap.size w w'
def TMakePost (g : Nat → Int) (n : Nat) (w : World) (e : Ending) (w' : World) : Prop :=
  (∃ A m c, e = .returned (.tuple #[.slice A m c, .int .i64 (Hm.wErr g n)]) ∧ m ≤ c ∧ SRow w' A m (fun j => mkS (Cm.cw (lensF g n) n j)) ∧ (Hm.wErr g n ≠ 0 → m = 0) ∧ (Hm.wErr g n = 0 → m = n)) ∧ Below w.heap.size w w'
/-- Of the lengths that are handed back. -/
theorem lens_ln (g : Nat → Int) (n : Nat) : Cm.ln (fun k => ((lensF g n k : Nat) : Int)) = lensF g n := by
  funext k
  show ((lensF g n k : Nat) : Int).toNat = _
  exact Int.toNat_natCast _
theorem lens_err {g : Nat → Int} {n : Nat} (h : Hm.wErr g n = 0) : Cm.lErr (fun k => ((lensF g n k : Nat) : Int)) n = 0 := by
  have ho := lensF_opt h
  refine lErr_zero.2 ⟨(Hm.wErr_zero.1 h).1, fun j hj => ?_⟩
  have := ho.len j hj
  omega
theorem lens_cost {g : Nat → Int} {n : Nat} (h : Hm.wErr g n = 0) : Hm.tErr g n (fun k => ((lensF g n k : Nat) : Int)) n = 0 ∧ Hm.tCost g n (fun k => ((lensF g n k : Nat) : Int)) n = ((Hm.ctot (Cm.ln g) (lensF g n) n : Nat) : Int) := by
  have h1 := Hm.tErr_zero.2 ⟨h, lens_err h, rfl⟩
  refine ⟨h1, ?_⟩
  unfold Hm.tCost
  rw [if_pos h1, lens_ln]
end Go.Proofs.Ytmgkoliindicgaa
