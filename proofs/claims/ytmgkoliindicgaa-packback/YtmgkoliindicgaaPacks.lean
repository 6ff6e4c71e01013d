
/-
The contract of quillkeep.packs.
-/
import Derived.Test.YtmgkoliindicgaaPackPut
import Derived.Test.YtmgkoliindicgaaCodeP
namespace Go.Proofs.Ytmgkoliindicgaa
open Go.RowKit

def exT (k : Nat) : Int := ([1, 0, 2] : List Int).getD k 0
theorem exT_put : putE (exG exA) 3 exT 3 = 0 := by decide +kernel
theorem exT_is : putT (exG exA) 3 exT 3 = [49, 48, 48, 49, 49] := by decide +kernel
theorem packs_ok (w : World) : Calls Try.prog 18 #[] w fun e w' => e = .returned (.bool true) ∧ Below w.heap.size w w' := by
  have hb1 := bl_new w (.cells #[.string ⟨#[48]⟩, .string ⟨#[49, 48]⟩, .string ⟨#[49, 49]⟩] 9)
  have hb2 := bl_new (w.alloc (.cells #[.string ⟨#[48]⟩, .string ⟨#[49, 48]⟩, .string ⟨#[49, 49]⟩] 9)) (.cells #[.int .i64 1, .int .i64 0, .int .i64 2] 3)
  have hS : SRow (w.alloc (.cells #[.string ⟨#[48]⟩, .string ⟨#[49, 48]⟩, .string ⟨#[49, 49]⟩] 9)) (some ⟨w.heap.size, 0, none⟩) 3 (exG exA) := SRow.lits w exA 9 3 _ rfl rfl
  have hI : IRow ((w.alloc (.cells #[.string ⟨#[48]⟩, .string ⟨#[49, 48]⟩, .string ⟨#[49, 49]⟩] 9)).alloc (.cells #[.int .i64 1, .int .i64 0, .int .i64 2] 3)) (some ⟨w.heap.size + 1, 0, none⟩) 3 exT := IRow.lit _ [1, 0, 2] 3 3 _ (by simp) rfl
  have hP := Put_any (c := 3) (d := 3) _ (hS.keep hb2) (by decide) hI
  have HB := hid (bl_then hb1 hb2)
  clear hS hI hb1 hb2
  go_enter Try.func18, Try.ntmps18
  go_wp2_with fail
  refine hP.mono ?_
  rintro e w3 ⟨rfl, hb⟩
  rw [exT_put, exT_is]
  have HB3 := hid (bl_then HB.out hb)
  clear hP hb HB
  go_wp2
  go_ret
  exact ⟨rfl, HB3.out⟩
end Go.Proofs.Ytmgkoliindicgaa
