/-
The contract of quillkeep.seeks: it returns true.
-/
import Derived.Test.YtcnfdmpggnhlgaaFind
import Derived.Test.YtcnfdmpggnhlgaaKeep
namespace Go.Proofs.Ytcnfdmpggnhlgaa
open Go.RowKit

def seekT : ByteArray := ⟨#[97, 98, 97, 98]⟩
def seekP : ByteArray := ⟨#[97, 98]⟩
theorem seek_places : fiL seekT seekP = [0, 2] := by decide +kernel

theorem seeks_any (w : World) : Calls Try.prog 31 #[] w fun e w' => e = .returned (.bool true) ∧ Below w.heap.size w w' := by
  go_enter Try.func31, Try.ntmps31
  go_wp2_with fail
  refine (Find_ok seekT seekP _ (by decide) (by decide) (by decide)).mono ?_
  rw [seek_places]
  rintro e w1 ⟨A1, c1, rfl, hr1, hb1⟩
  have L : IRow (w1.alloc (.cells #[.int .i64 0, .int .i64 2] 3)) (some ⟨w1.heap.size, 0, none⟩) 2 (fun k => ([0, 2] : List Int).getD k 0) := IRow.lit w1 [0, 2] 3 2 _ rfl rfl
  have R1' : IRow (w1.alloc (.cells #[.int .i64 0, .int .i64 2] 3)) A1 2 (fun k => ([0, 2] : List Int).getD k 0) := hr1.alloc _
  have R1 := hid R1'
  have HL := hid L
  clear hr1 R1' L
  go_wp2_with fail
  with_reducible refine (equal_any R1.out HL.out (by decide) (by decide)).mono ?_
  rw [eqB_true.2 ⟨rfl, fun _ _ => rfl⟩]
  rintro e w2 ⟨rfl, hd2⟩
  have hfin := hid (bl_then hb1 ((bl_new w1 (.cells #[.int .i64 0, .int .i64 2] 3)).trans (hd2.below _)))
  clear hd2 hb1 R1 HL
  go_wp2
  go_ret
  exact ⟨rfl, hfin.out⟩
end Go.Proofs.Ytcnfdmpggnhlgaa
