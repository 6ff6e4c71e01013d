
/-
The contract of quillkeep.trees.
-/
import Derived.Test.YtmgkoliindicgaaTreeC
import Derived.Test.YtmgkoliindicgaaKeep
namespace Go.Proofs.Ytmgkoliindicgaa
open Go.RowKit

def lit4 : List Int := [5, 1, 1, 2]
def lit4l : List Int := [1, 3, 3, 2]
def g4 (k : Nat) : Int := lit4.getD k 0
theorem g4_ln : Cm.ln g4 = Hm.w4 := by
  funext k
  match k with
  | 0 => rfl
  | 1 => rfl
  | 2 => rfl
  | 3 => rfl
  | k + 4 => rfl
theorem g4_err : Hm.wErr g4 4 = 0 := by decide +kernel
theorem g4_lens : eqB 4 4 (fun k => ((lensF g4 4 k : Nat) : Int)) (fun k => lit4l.getD k 0) = true := by
  have h := lensF_opt g4_err
  rw [g4_ln] at h
  obtain ⟨h0, h1, h2, h3⟩ := Hm.opt4 h
  refine eqB_true.2 ⟨rfl, fun k hk => ?_⟩
  match k, hk with
  | 0, _ => show ((lensF g4 4 0 : Nat) : Int) = 1; omega
  | 1, _ => show ((lensF g4 4 1 : Nat) : Int) = 3; omega
  | 2, _ => show ((lensF g4 4 2 : Nat) : Int) = 3; omega
  | 3, _ => show ((lensF g4 4 3 : Nat) : Int) = 2; omega
theorem trees_ok (w : World) : Calls Try.prog 19 #[] w fun e w' => e = .returned (.bool true) ∧ Below w.heap.size w w' := by
  have hL := Lens_any (c := 4) (g := g4) (w.alloc (.cells #[.int .i64 5, .int .i64 1, .int .i64 1, .int .i64 2] 3)) (IRow.lit w lit4 3 4 _ rfl rfl) (by decide)
  go_enter Try.func19, Try.ntmps19
  go_wp2_with fail
  refine hL.mono ?_
  rintro e w1 ⟨⟨A1, m, c1, rfl, hc1, hr1, _, f1⟩, hb1⟩
  obtain rfl : m = 4 := f1 g4_err
  rw [g4_err]
  have hb2 := bl_new w1 (.cells #[.int .i64 1, .int .i64 3, .int .i64 3, .int .i64 2] 3)
  have HL := hid (show IRow (w1.alloc (.cells #[.int .i64 1, .int .i64 3, .int .i64 3, .int .i64 2] 3)) (some ⟨w1.heap.size, 0, none⟩) 4 (fun k => lit4l.getD k 0) from IRow.lit w1 lit4l 3 4 _ rfl rfl)
  have HR := hid (hr1.keep hb2)
  have HB := hid (bl_then (bl_then (bl_new w _) hb1) hb2)
  clear hL f1 hr1 hb1 hb2
  go_wp2_with fail
  with_reducible refine (equal_any HR.out HL.out (by decide) (by decide)).mono ?_
  rw [g4_lens]
  rintro e w3 ⟨rfl, hd⟩
  have HB3 := hid (HB.out.trans (hd.below _))
  clear HL HR HB hd
  go_wp2
  go_ret
  exact ⟨rfl, HB3.out⟩
end Go.Proofs.Ytmgkoliindicgaa
