/-
The contract of quillkeep.tries: three words at one time are found.
-/
import Derived.Test.YtcnfdmpggnhlgaaTFind
import Derived.Test.YtcnfdmpggnhlgaaHEqual
namespace Go.Proofs.Ytcnfdmpggnhlgaa
open Go.RowKit

def triesP (k : Nat) : ByteArray := [(⟨#[104, 101]⟩ : ByteArray), ⟨#[115, 104, 101]⟩, ⟨#[104, 101, 114, 115]⟩].getD k ⟨#[]⟩
theorem tries_err : patsErr triesP 3 = 0 := by decide +kernel
theorem tries_hits : hitsL triesP 3 (wd ⟨#[117, 115, 104, 101, 114, 115]⟩) 6 = [(1, 1), (2, 0), (2, 2)] := by decide +kernel

/-- A new block that holds the strings l. -/
theorem SRow.lit (w : World) (l : List ByteArray) (t : TypeId) (n : Nat) (hn : n = l.length) : SRow (w.alloc (.cells (l.map Value.string).toArray t)) (some ⟨w.heap.size, 0, none⟩) n (fun k => l.getD k ⟨#[]⟩) := by
  intro k hk
  refine ⟨w.heap.size, 0, rfl, by simp, ?_⟩
  rw [cell_of_row _ _ _ _ _ _ (heap_alloc_new w _)]
  have hk' : k < l.length := by omega
  simp [List.getElem?_eq_getElem hk']
/-- A new block that holds the hits l. -/
theorem HRow.lit (w : World) (l : List (Nat × Nat)) (t : TypeId) (n : Nat) (hn : n = l.length) : HRow (w.alloc (.cells (l.flatMap hitC).toArray t)) (some ⟨w.heap.size, 0, none⟩) n (fun k => l.getD k (0, 0)) := by
  intro k hk
  refine ⟨w.heap.size, 0, rfl, by simp, ?_⟩
  have hf := flat_at l k (by omega)
  have e : l.getD k (0, 0) = l[k] := getD_lt (by omega)
  rw [cell_of_row _ _ _ _ _ _ (heap_alloc_new w _), cell_of_row _ _ _ _ _ _ (heap_alloc_new w _), Nat.zero_add]
  simp only [e, List.getElem?_toArray]
  exact hf

theorem tries_true (w : World) : Calls Try.prog 32 #[] w fun e w' => e = .returned (.bool true) ∧ Below w.heap.size w w' := by
  go_enter Try.func32, Try.ntmps32
  have HS : Hid (SRow (w.alloc (.cells #[.string ⟨#[104, 101]⟩, .string ⟨#[115, 104, 101]⟩, .string ⟨#[104, 101, 114, 115]⟩] 9)) (some ⟨w.heap.size, 0, none⟩) 3 triesP) :=
    SRow.lit w [(⟨#[104, 101]⟩ : ByteArray), ⟨#[115, 104, 101]⟩, ⟨#[104, 101, 114, 115]⟩] 9 3 rfl
  go_wp2_with fail
  with_reducible refine (TFind_ok _ _ 3 3 triesP ⟨#[117, 115, 104, 101, 114, 115]⟩ (by decide) HS.out (by omega) tries_err).mono ?_
  rintro e w1 ⟨v, rfl, ho, hb⟩
  have e6 : (⟨#[117, 115, 104, 101, 114, 115]⟩ : ByteArray).size = 6 := rfl
  rw [e6, tries_hits] at ho
  obtain ⟨A, c, rfl, _, hrow⟩ := ho.row
  have HR := hid hrow
  have HB := hid hb
  have HL : Hid (HRow (w1.alloc (.cells #[.int .i64 1, .int .i64 1, .int .i64 2, .int .i64 0, .int .i64 2, .int .i64 2] 55)) (some ⟨w1.heap.size, 0, none⟩) 3 (fun k => [(1, 1), (2, 0), (2, 2)].getD k (0, 0))) :=
    HRow.lit w1 [(1, 1), (2, 0), (2, 2)] 55 3 rfl
  clear ho hrow hb e6
  go_wp2_with fail
  with_reducible refine (hequal_any (n := 3) (m := 3) (HR.out.keep (bl_new _ _)) HL.out (by decide) (by decide)).mono ?_
  rintro e w2 ⟨rfl, hd⟩
  have he : eqH 3 3 (fun k => [(1, 1), (2, 0), (2, 2)].getD k (0, 0)) (fun k => [(1, 1), (2, 0), (2, 2)].getD k (0, 0)) = true := eqH_true.2 ⟨rfl, fun _ _ => rfl⟩
  have HD := hid hd
  clear hd
  rw [show eqH _ _ _ _ = true from he]
  go_wp2
  go_ret
  exact ⟨rfl, (bl_then (bl_new w _) HB.out).trans (((Below.refl _ _).alloc (by have := HB.out.size; simp at this; omega) _).trans (HD.out.below _))⟩
end Go.Proofs.Ytcnfdmpggnhlgaa
