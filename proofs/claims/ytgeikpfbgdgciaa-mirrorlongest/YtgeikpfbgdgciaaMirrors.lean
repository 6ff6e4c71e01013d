/-
The contract of quillkeep.mirrors.
-/
import Derived.Test.YtgeikpfbgdgciaaMirror
import Derived.Test.YtgeikpfbgdgciaaKeep
namespace Go.Proofs.Ytgeikpfbgdgciaa
open Go.RowKit

def abaaS : ByteArray := ⟨#[97, 98, 97, 97]⟩
theorem abaa_is {a b : Nat} (h : Mm.IsLg (byt abaaS) abaaS.size a b) : abaaS.extract a b = ⟨#[97, 98, 97]⟩ := by
  obtain ⟨h1, h2, h3, h4⟩ := h
  rw [show abaaS.size = 4 from rfl] at h2 h4
  have hp : Mm.Pal (byt abaaS) 0 3 := by
    intro i g1 g2
    match i, g2 with
    | 0, _ => decide
    | 1, _ => decide
    | 2, _ => decide
  have h5 := h4 0 3 (by omega) (by omega) hp
  have h6 : ¬ (a = 0 ∧ b = 4) := by
    rintro ⟨rfl, rfl⟩
    have := h3 1 (by omega) (by omega)
    revert this
    decide
  obtain ⟨rfl, rfl⟩ : a = 0 ∧ b = 3 := by omega
  rfl
theorem mirrors_ok (w : World) : Calls Try.prog 14 #[] w fun e w' => e = .returned (.bool true) ∧ Below w.heap.size w w' := by
  go_enter Try.func14, Try.ntmps14
  go_wp2_with fail
  refine (Unlike_ok abaaS _ (by decide)).mono ?_
  rw [show (Mm.pl (lst abaaS)).length = 4 from Mm.pl_abaa]
  rintro e w1 ⟨rfl, hb1⟩
  go_wp2_with fail
  refine (Longest_ok abaaS _ (by decide)).mono ?_
  rintro e w2 ⟨⟨a, b, rfl, hL⟩, hb2⟩
  rw [abaa_is hL]
  have HB := hid (bl_then hb1 hb2)
  clear hL hb1 hb2
  go_wp2_with fail
  with_reducible refine (good_ok _ 2 2 _ (by omega) (two_zeros _ _)).mono ?_
  rintro e w3 ⟨rfl, rfl⟩
  have HB2 := hid (bl_then HB.out (bl_new w2 (.cells #[.int .i64 0, .int .i64 0] 23)))
  clear HB
  go_wp2
  go_ret
  exact ⟨rfl, HB2.out⟩
end Go.Proofs.Ytgeikpfbgdgciaa
