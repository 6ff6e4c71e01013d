/-
The contract of quillkeep.lyndons: it returns true.
-/
import Derived.Test.YtcnfdmpggnhlgaaLFact
import Derived.Test.YtcnfdmpggnhlgaaKeep
namespace Go.Proofs.Ytcnfdmpggnhlgaa
open Go.RowKit

def abaab : ByteArray := ⟨#[97, 98, 97, 97, 98]⟩
def abL : List ByteArray := [⟨#[97, 98]⟩, ⟨#[97, 97, 98]⟩]
theorem lyn_byte (c : UInt8) : Lm.Lyn [c] := Lm.lyn_one _
theorem lyn_ab : Lm.Lyn [97, 98] := (Lm.lyn_join (lyn_byte 97) (lyn_byte 98)).2 (by decide)
theorem lyn_aab : Lm.Lyn [97, 97, 98] := (Lm.lyn_join (lyn_byte 97) lyn_ab).2 (by decide)
theorem fact_abaab : Lm.Fact (wd abaab) (abL.map wd) := by
  refine ⟨fun w hw => ?_, ?_, rfl⟩
  · have : w = [97, 98] ∨ w = [97, 97, 98] := by simpa [abL, wd] using hw
    rcases this with rfl | rfl
    · exact lyn_ab
    · exact lyn_aab
  · show List.Pairwise _ [[97, 98], [97, 97, 98]]
    refine List.Pairwise.cons (fun b hb => ?_) (List.pairwise_singleton _ _)
    rw [List.mem_singleton.1 hb]
    decide
theorem map_wd : ∀ {a b : List ByteArray}, a.map wd = b.map wd → a = b
  | [], [], _ => rfl
  | [], _ :: _, h => by simp at h
  | _ :: _, [], h => by simp at h
  | x :: a, y :: b, h => by
    simp only [List.map_cons, List.cons.injEq] at h
    rw [wd_inj h.1, map_wd h.2]
theorem SRow.lit (w : World) (l : List ByteArray) (t : TypeId) (n N : Nat) (hN : w.heap.size = N) (hn : n = l.length) : SRow (w.alloc (.cells (l.map Value.string).toArray t)) (some ⟨N, 0, none⟩) n (fun k => l.getD k ByteArray.empty) := by
  subst hN; subst hn
  intro k hk
  refine ⟨w.heap.size, 0, rfl, by simp, ?_⟩
  rw [Nat.zero_add]
  simp [hk, List.getD_eq_getElem?_getD]
set_option maxHeartbeats 400000 in
theorem lyndons_any (w : World) : Calls Try.prog 27 #[] w fun e w' => e = .returned (.bool true) ∧ Below w.heap.size w w' := by
  go_enter Try.func27, Try.ntmps27
  go_wp2_with fail
  refine (Split_row abaab _ (by decide)).mono ?_
  rintro e w1 ⟨A, c, n, g, rfl, hc, hn, hrow, hfact, hb1⟩
  have hm : n ≤ maxLen := Nat.le_trans hn (by decide)
  have HE : Hid (true = decide (rowL g n = rowL (fun k => abL.getD k ByteArray.empty) 2)) := by
    refine (decide_eq_true ?_).symm
    rw [show 2 = abL.length from rfl, rowL_of]
    exact map_wd (Lm.Fact.unique hfact fact_abaab)
  have HR := hid (hrow.keep (bl_new w1 (.cells #[.string ⟨#[97, 98]⟩, .string ⟨#[97, 97, 98]⟩] 9)))
  have HL := hid (show SRow (w1.alloc (.cells #[.string ⟨#[97, 98]⟩, .string ⟨#[97, 97, 98]⟩] 9)) (some ⟨w1.heap.size, 0, none⟩) 2 (fun k => abL.getD k ByteArray.empty) from SRow.lit w1 abL 9 2 _ rfl rfl)
  have hb2 := bl_then hb1 (bl_new w1 (.cells #[.string ⟨#[97, 98]⟩, .string ⟨#[97, 97, 98]⟩] 9))
  clear hrow hfact hb1
  go_wp2_with fail
  with_reducible refine (sequal_any HR.out HL.out hm (by decide) true HE.out).mono ?_
  rintro e w2 ⟨rfl, hd⟩
  have hb3 := hid (hb2.trans (hd.below _))
  clear hb2 hd HR HL
  go_wp2
  go_ret
  exact ⟨rfl, hb3.out⟩
end Go.Proofs.Ytcnfdmpggnhlgaa
