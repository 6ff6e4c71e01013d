
/-
The contracts of quillkeep.codes and quillkeep.lensOf.
-/
import Derived.Test.YtmgkoliindicgaaCodeC
import Derived.Test.YtmgkoliindicgaaKeep
namespace Go.Proofs.Ytmgkoliindicgaa
open Go.RowKit

theorem zeros3 (w : World) (t : TypeId) : ∀ k, k < 3 → (w.alloc (.cells #[.int .i64 0, .int .i64 0, .int .i64 0] t)).cell? ⟨w.heap.size, k, none⟩ = some (.int .i64 0) := by
  intro k hk
  match k, hk with
  | 0, _ => simp
  | 1, _ => simp
  | 2, _ => simp
theorem codes_ok (w : World) : Calls Try.prog 24 #[] w fun e w' => e = .returned (.bool true) ∧ Below w.heap.size w w' := by
  have hA := fun W => Front_any (c := 3) (g := exG exA) (W.alloc (.cells #[.string ⟨#[48]⟩, .string ⟨#[49, 48]⟩, .string ⟨#[49, 49]⟩] 9)) (SRow.lits W exA 9 3 _ rfl rfl) (by decide) (by decide)
  have hB := fun W => Sole_any (c := 2) (g := exG exB) (W.alloc (.cells #[.string ⟨#[48]⟩, .string ⟨#[48, 49]⟩] 9)) (SRow.lits W exB 9 2 _ rfl rfl) (by decide) (by decide)
  have hC := fun W => Sole_any (c := 3) (g := exG exC) (W.alloc (.cells #[.string ⟨#[48]⟩, .string ⟨#[49]⟩, .string ⟨#[48, 49]⟩] 9)) (SRow.lits W exC 9 3 _ rfl rfl) (by decide) (by decide)
  rw [exA_w] at hA
  rw [exB_w] at hB
  rw [exC_w] at hC
  go_enter Try.func24, Try.ntmps24
  go_wp2_with fail
  refine (hA _).mono ?_
  rintro e w1 ⟨⟨b1, rfl, h1, _⟩, hb1⟩
  obtain rfl : b1 = true := (h1 (by decide +kernel)).2 exA_pf
  rw [show Cm.cErr [[48], [49, 48], [49, 49]] = 0 by decide +kernel]
  have HB1 := hid (bl_then (bl_new w _) hb1)
  clear h1 hb1 hA
  go_wp2_with fail
  refine (hB _).mono ?_
  rintro e w2 ⟨⟨b2, rfl, h2, _⟩, hb2⟩
  obtain rfl : b2 = true := (h2 (by decide +kernel)).2 exB_ud
  rw [show Cm.cErr [[48], [48, 49]] = 0 by decide +kernel]
  have HB2 := hid (bl_then HB1.out (bl_then (bl_new w1 _) hb2))
  clear h2 hb2 HB1 hB
  go_wp2_with fail
  refine (hC _).mono ?_
  rintro e w3 ⟨⟨b3, rfl, h3, _⟩, hb3⟩
  obtain rfl : b3 = false := by
    cases b3 with
    | false => rfl
    | true => exact absurd ((h3 (by decide +kernel)).1 rfl) exC_no
  rw [show Cm.cErr [[48], [49], [48, 49]] = 0 by decide +kernel]
  have HB3 := hid (bl_then HB2.out (bl_then (bl_new w2 _) hb3))
  clear h3 hb3 HB2 hC
  go_wp2_with fail
  with_reducible refine (good_ok _ 3 3 _ (by omega) (zeros3 _ _)).mono ?_
  rintro e w4 ⟨rfl, rfl⟩
  have HB4 := hid (bl_then HB3.out (bl_new w3 (.cells #[.int .i64 0, .int .i64 0, .int .i64 0] 24)))
  clear HB3
  go_wp2
  go_ret
  exact ⟨rfl, HB4.out⟩
end Go.Proofs.Ytmgkoliindicgaa
