
/-
quillkeep.edits: the document's own example.
-/
import Derived.Test.YtphbloibldljjaaEdAp
import Derived.Test.YtphbloibldljjaaKeep
namespace Go.Proofs.Ytphbloibldljjaa
open Go.RowKit

def helloL : List Es.Ev := [⟨0, 1, ⟨#[74]⟩⟩, ⟨5, 0, ⟨#[33]⟩⟩]
theorem hello_err : Es.eErr (((⟨#[104, 101, 108, 108, 111]⟩ : ByteArray).size : Nat) : Int) helloL = 0 := by decide +kernel
theorem hello_done : mkS (Es.doneL (lst ⟨#[104, 101, 108, 108, 111]⟩) helloL) = ⟨#[74, 101, 108, 108, 111, 33]⟩ := by decide +kernel
theorem edits_ok (w : World) : Calls Try.prog 15 #[] w fun e w' => e = .returned (.bool true) ∧ Below w.heap.size w w' := by
  have HR : Hid (EvRow (w.alloc (.cells #[.int .i64 0, .int .i64 1, .string ⟨#[74]⟩, .int .i64 5, .int .i64 0, .string ⟨#[33]⟩] 30)) (some ⟨w.heap.size, 0, none⟩) 2 (fun k => helloL.getD k Es.none_)) :=
    (EvRow.two w ⟨0, 1, ⟨#[74]⟩⟩ ⟨5, 0, ⟨#[33]⟩⟩ 30 _ rfl).congr fun k hk => by
      match k, hk with
      | 0, _ => rfl
      | 1, _ => rfl
  have HW : Hid (∀ k, k < 2 → EvWf (helloL.getD k Es.none_)) := fun k hk => by
    match k, hk with
    | 0, _ => exact wf_lit _ (by decide +kernel)
    | 1, _ => exact wf_lit _ (by decide +kernel)
  go_enter Try.func15, Try.ntmps15
  go_wp2_with fail
  with_reducible refine (Apply_any (n := 2) ⟨#[104, 101, 108, 108, 111]⟩ _ HR.out HW.out (by decide) (by decide)).mono ?_
  rintro e w1 ⟨t, x, rfl, ha, hb1⟩
  obtain ⟨rfl, rfl⟩ := ha.lit (by rw [show el (fun k => helloL.getD k Es.none_) 2 = helloL from el_of helloL]; exact hello_err)
  rw [show el (fun k => helloL.getD k Es.none_) 2 = helloL from el_of helloL, hello_done]
  have HB := hid (bl_then (bl_new w _) hb1)
  clear hb1 ha HR HW
  go_wp2
  go_ret
  exact ⟨rfl, HB.out⟩
end Go.Proofs.Ytphbloibldljjaa
