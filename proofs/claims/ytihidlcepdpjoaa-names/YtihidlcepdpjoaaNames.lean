/-
The walk of quilllaw.Names: it returns true.
-/
import Derived.Test.YtihidlcepdpjoaaEqual
namespace Go.Proofs.Ytihidlcepdpjoaa
open Go.RowKit
def nums : List Int := [0, 1, 2, 3, 4, 5, 6, 7, 8, 9, 10, 11, 12, 200, 10, 20, 512, 8, 12, 12, 10000, 4096, 40, 200, 20, 40, 60, 30, 1100, 4000, 6, 8, 8, 4096, 60, 1, 2, 3, 1, 2, 3, 4, 5, 6, 7, 8, 9, 10, 0, 1, 2, 3]
set_option maxHeartbeats 400000 in
theorem names_walk (w : World) : Calls Try.prog 3 #[] w fun e w' => e = .returned (.bool true) ∧ Below w.heap.size w w' := by
  go_enter Try.func3, Try.ntmps3
  go_wp2_with (with_reducible refine wpList_buildFlatAt rfl 22 3 52 _ rfl .i64 nums _ rfl _ rfl Try.underlying22 (by kernel_rfl) (by kernel_rfl) (by decide) (by decide) (by decide) (by kernel_rfl) ?_)
  with_reducible refine (equal_any ((IRow.lit w nums 3 52 w.heap.size rfl (by decide)).alloc _) (IRow.lit (w.alloc (.cells (nums.map (Value.int .i64)).toArray 3)) nums 3 52 (w.heap.size + 1) (by simp) (by decide)) (by decide) (by decide)).mono ?_
  rintro e w1 ⟨rfl, hd⟩
  have hfin : eqB 52 52 (fun k => nums.getD k 0) (fun k => nums.getD k 0) = true := eqB_true.2 ⟨rfl, fun _ _ => rfl⟩
  have HF := hid hfin
  clear hfin
  go_wp2
  go_ret
  exact ⟨ret_bool HF.out, (((Below.refl _ _).alloc (Nat.le_refl _) _).alloc (by simp) _).trans (hd.below _)⟩
end Go.Proofs.Ytihidlcepdpjoaa
