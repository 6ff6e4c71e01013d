
/-
A map of numbers by numbers that the call has made, as a partial function.
-/
import Derived.Test.YtgkagigagcamoaaOpRow
import Derived.Test.YtgkagigagcamoaaBase
import Derived.Maps.OwnOps
import Derived.Maps.OwnSet
import Derived.Maps.Views
import Derived.Carry
namespace Go.Proofs.Ytgkagigagcamoaa
open Go.RowKit Go.Maps

theorem imZero (w : World) : (zeroValue 3).run Try.prog w = .ok (.int .i64 0) w := by kernel_rfl
theorem imLaw : Keyed Try.prog 3 := int_keyed Try.underlying3
theorem i64_wf {N : Int} (h : N64 N) : (Lit.int .i64 N).wf = true := WalkArith.wf_i64 ⟨by have := h.1; omega, by have := h.2; omega⟩
/-- The map in block B is f; K: no more stores than that. -/
def IMp (w : World) (B K : Nat) (f : Int → Option Int) : Prop :=
  ∃ D : DataW Unit, w.ownsMap Try.prog 3 (plainElem (H := Unit) Try.prog 3) B K D ∧ Maps.IsMap D ∧ ∀ j : Int, Maps.has D (.int .i64 j) = (f j).isSome ∧ D.atKey (.int .i64 j) (.lit (.int .i64 0)) = .lit (.int .i64 ((f j).getD 0))
theorem IMp.new (w : World) : IMp (w.alloc (.map #[] 0)) w.heap.size 0 (fun _ => none) := ⟨_, World.ownsMap_made w _ _ _, isMap_empty, fun _ => ⟨by simp [Maps.has], rfl⟩⟩
theorem IMp.put {w : World} {B K : Nat} {f : Int → Option Int} (h : IMp w B K f) (hK : K ≤ 1000000) {j v : Int} (hj : N64 j) (hv : N64 v) :
    ∃ w', (Instr.mapUpdate 66 (.map (some B)) (.int .i64 j) (.int .i64 v)).run Try.prog w = .ok () w' ∧ IMp w' B (K + 1) (fun i => if i = j then some v else f i) ∧ w.grownBy w' (some B) := by
  obtain ⟨D, h1, h2, h3⟩ := h
  obtain ⟨w', hrun, hown, hg⟩ := h1.update imLaw Try.underlying66 (by unfold maxLen; omega) (keyOf_int_mk Try.underlying3 (i64_wf hj)) (plainElem_int Try.underlying3 (i64_wf hv))
  refine ⟨w', hrun, ⟨_, hown, h2.put _ _, fun i => ?_⟩, hg⟩
  by_cases e : i = j
  · subst e
    simp only [if_pos]
    exact ⟨by rw [has_put_same h2 (by simp [WideAt.IsKeyLit])]; rfl, by rw [atKey_put_same h2 (by simp [WideAt.IsKeyLit])]; rfl⟩
  · have e' : Lit.int .i64 i ≠ Lit.int .i64 j := fun e2 => e (by simpa only [Lit.int.injEq, true_and] using e2)
    simp only [if_neg e]
    exact ⟨by rw [has_put_other e']; exact (h3 i).1, by rw [atKey_put_other e']; exact (h3 i).2⟩
theorem IMp.look {w : World} {B K : Nat} {f : Int → Option Int} (h : IMp w B K f) {j : Int} (hj : N64 j) :
    (Instr.lookup 66 (.map (some B)) (.int .i64 j) false).run Try.prog w = .ok (.int .i64 ((f j).getD 0)) w := by
  obtain ⟨D, h1, h2, h3⟩ := h
  obtain ⟨c, hrun, hat, _⟩ := h1.lookup_int imLaw Try.underlying66 Try.underlying3 (imZero w) (keyOf_int_mk Try.underlying3 (i64_wf hj))
  rw [(h3 j).2] at hat
  have hc : (f j).getD 0 = c := by simpa only [DataW.lit.injEq, Lit.int.injEq, true_and] using hat
  rw [hrun, hc]
theorem IMp.ask {w : World} {B K : Nat} {f : Int → Option Int} (h : IMp w B K f) {j : Int} (hj : N64 j) :
    (Instr.lookup 66 (.map (some B)) (.int .i64 j) true).run Try.prog w = .ok (.tuple #[.int .i64 ((f j).getD 0), .bool (f j).isSome]) w := by
  obtain ⟨D, h1, h2, h3⟩ := h
  obtain ⟨v, ps, hrun, hv⟩ := h1.look_ok imLaw Try.underlying66 (imZero w) (plainElem_int (H := Unit) Try.underlying3 (by decide)) (keyOf_int_mk Try.underlying3 (i64_wf hj))
  obtain ⟨c, rfl, hc, hwc⟩ := plainElem_int_inv Try.underlying3 hv
  simp only [Prod.mk.injEq] at hc
  rw [(h3 j).2] at hc
  have hcc : (f j).getD 0 = c := by simpa only [DataW.lit.injEq, Lit.int.injEq, true_and] using hc.1
  rw [hrun, (h3 j).1, hcc]
end Go.Proofs.Ytgkagigagcamoaa
