
/-
quillkeep.sames: the document's own example; and small facts that the laws on package same share.
-/
import Derived.Test.YtejcijlmpiiffaaSamePub
import Derived.Test.YtejcijlmpiiffaaKeep
import Derived.Test.YtejcijlmpiiffaaBack
import Derived.Test.YtejcijlmpiiffaaApp
namespace Go.Proofs.Ytejcijlmpiiffaa
open Go.RowKit

theorem zeros3 (w : World) (t : TypeId) : ∀ k, k < 3 → (w.alloc (.cells #[.int .i64 0, .int .i64 0, .int .i64 0] t)).cell? ⟨w.heap.size, k, none⟩ = some (.int .i64 0) := by
  intro k hk
  match k, hk with
  | 0, _ => simp
  | 1, _ => simp
  | 2, _ => simp
theorem zeros5 (w : World) (t : TypeId) : ∀ k, k < 5 → (w.alloc (.cells #[.int .i64 0, .int .i64 0, .int .i64 0, .int .i64 0, .int .i64 0] t)).cell? ⟨w.heap.size, k, none⟩ = some (.int .i64 0) := by
  intro k hk
  match k, hk with
  | 0, _ => simp
  | 1, _ => simp
  | 2, _ => simp
  | 3, _ => simp
  | 4, _ => simp
theorem lst_rev (s : ByteArray) : lst (backS s) = (lst s).reverse := by
  apply List.ext_getElem
  · rw [lst_len, backS_size, List.length_reverse, lst_len]
  · intro k h1 h2
    rw [lst_len, backS_size] at h1
    rw [List.getElem_reverse]
    have e1 : (lst (backS s)).getD k 0 = byt (backS s) k := lst_get _ _
    rw [backS_byt h1, List.getD_eq_getElem?_getD, List.getElem?_eq_getElem (by rw [lst_len, backS_size]; exact h1)] at e1
    have e2 : (lst s).getD (s.size - 1 - k) 0 = byt s (s.size - 1 - k) := lst_get _ _
    rw [List.getD_eq_getElem?_getD, List.getElem?_eq_getElem (by rw [lst_len]; omega)] at e2
    have hl := lst_len s
    simp only [Option.getD_some] at e1 e2
    rw [e1, ← e2]
    congr 1
theorem ex1 : Sa.lc (lst ⟨#[97, 98, 99, 98, 100, 97, 98]⟩) (lst ⟨#[98, 100, 99, 97, 98, 97]⟩) = 4 := by decide +kernel
theorem ex2 : Sa.lies (lst ⟨#[98, 99, 98, 97]⟩) (lst ⟨#[97, 98, 99, 98, 100, 97, 98]⟩) = true := by decide +kernel
end Go.Proofs.Ytejcijlmpiiffaa
