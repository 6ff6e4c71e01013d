
/-
quilltop.works and quilltop.good: the examples of the whole; no error at all.
-/
import Derived.Test.YtgkagigagcamoaaSeg45
import Derived.Test.YtgkagigagcamoaaSeg44
namespace Go.Proofs.Ytgkagigagcamoaa
open Go.RowKit

def jelloL : List Es.Ev := [⟨0, 1, ⟨#[74]⟩⟩]
theorem jello_err : Es.eErr (((⟨#[104, 101, 108, 108, 111]⟩ : ByteArray).size : Nat) : Int) jelloL = 0 := by decide +kernel
theorem jello_done : mkS (Es.doneL (lst ⟨#[104, 101, 108, 108, 111]⟩) jelloL) = ⟨#[74, 101, 108, 108, 111]⟩ := by decide +kernel
theorem works_ok (w : World) : Calls Try.prog 31 #[] w fun e w' => e = .returned (.bool true) ∧ Below w.heap.size w w' := by
  have HW : Hid (∀ k, k < 1 → EvWf ((fun _ => (⟨0, 1, ⟨#[74]⟩⟩ : Es.Ev)) k)) := fun k _ => wf_lit ⟨0, 1, ⟨#[74]⟩⟩ (by decide +kernel)
  go_enter Try.func31, Try.ntmps31
  go_wp2_with fail
  with_reducible refine (Put_ban _).mono ?_
  rintro e w1 ⟨rfl, hb1⟩
  have HR : Hid (EvRow (w1.alloc (.cells #[.int .i64 0, .int .i64 1, .string ⟨#[74]⟩] 59)) (some ⟨w1.heap.size, 0, none⟩) 1 (fun _ => ⟨0, 1, ⟨#[74]⟩⟩)) := EvRow.one w1 ⟨0, 1, ⟨#[74]⟩⟩ 59 _ rfl
  have HB := hid (bl_then hb1 (bl_new w1 (.cells #[.int .i64 0, .int .i64 1, .string ⟨#[74]⟩] 59)))
  clear hb1
  go_wp2_with fail
  with_reducible refine (Apply_any (n := 1) ⟨#[104, 101, 108, 108, 111]⟩ _ HR.out HW.out (by decide) (by decide)).mono ?_
  rintro e w2 ⟨t, x, rfl, ha, hb2⟩
  have hel : el (fun _ => (⟨0, 1, ⟨#[74]⟩⟩ : Es.Ev)) 1 = jelloL := rfl
  rw [hel] at ha
  obtain ⟨rfl, rfl⟩ := ha.lit jello_err
  rw [jello_done]
  have HB := hid (bl_then HB.out hb2)
  clear hb2 ha HR HW hel
  go_wp2
  go_ret
  exact ⟨rfl, HB.out⟩
/-- So many zeros in a new block. -/
theorem zeros_new (w : World) (t : TypeId) (n : Nat) : ∀ k, k < n → (w.alloc (.cells (List.replicate n (Value.int .i64 0)).toArray t)).cell? ⟨w.heap.size, k, none⟩ = some (.int .i64 0) := by
  intro k hk
  rw [cell_of_row _ _ _ _ _ _ (heap_alloc_new w _)]
  simp [hk]
end Go.Proofs.Ytgkagigagcamoaa
