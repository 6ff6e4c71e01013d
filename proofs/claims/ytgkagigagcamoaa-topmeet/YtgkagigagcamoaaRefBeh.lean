
/-
The contract of quillref.BehindOf.
-/
import Derived.Test.YtgkagigagcamoaaRefBoth
import Derived.Test.YtgkagigagcamoaaSeg45
import Derived.Deep.RegionLaw
namespace Go.Proofs.Ytgkagigagcamoaa
open Go.RowKit

/-- One edit of the other script, as it stands behind A. -/
def bh (A : List Es.Ev) (x : Es.Ev) : Es.Ev := ⟨x.a + Es.upTo A x.a, x.d, x.s⟩
theorem beh_snoc (A B : List Es.Ev) (x : Es.Ev) : Es.behL A (B ++ [x]) = if Es.has A x = true then Es.behL A B else Es.behL A B ++ [bh A x] := by
  unfold Es.behL
  rw [List.filter_append, List.map_append, List.filter_cons]
  by_cases h : Es.has A x = true
  · rw [if_pos h, if_neg (by rw [h]; decide)]
    simp
  · rw [if_neg h, if_pos (by simpa using h)]
    simp [bh]
theorem beh_len (A : List Es.Ev) (h : Nat → Es.Ev) : ∀ k, (Es.behL A (el h k)).length ≤ k := fun k => by
  unfold Es.behL
  rw [List.length_map]
  have := List.length_filter_le (fun x => !Es.has A x) (el h k)
  rw [el_len] at this
  exact this
theorem EvBlk.set0 {w : World} {b : Nat} {x : Es.Ev} (h : EvBlk w b x) (z : Int) : EvBlk (w.setCell ⟨b, 0, none⟩ (.int .i64 z)) b ⟨z, x.d, x.s⟩ := by
  unfold EvBlk at h ⊢
  obtain ⟨hlt, hv⟩ := Array.getElem?_eq_some_iff.1 h
  simp [World.setCell, hlt, Array.getElem_modify, hv]
theorem EvBlk.frozen {w : World} {b : Nat} {x : Es.Ev} (h : EvBlk w b x) (j : Nat) : w.frozen? ⟨b, j, none⟩ = false := by
  unfold World.frozen?
  rw [h]
  simp
def fl (g : Nat → Es.Ev) (t : Int) (k : Nat) : List Es.Ev := (el g k).filter fun y => decide (y.a + y.d < t)
theorem fl_succ (g : Nat → Es.Ev) (t : Int) (k : Nat) : fl g t (k + 1) = if (g k).a + (g k).d < t then fl g t k ++ [g k] else fl g t k := by
  unfold fl
  rw [el_succ, List.filter_append, List.filter_cons]
  by_cases h : (g k).a + (g k).d < t
  · rw [if_pos h, if_pos (decide_eq_true h)]; rfl
  · rw [if_neg h, if_neg (by simpa using h)]; simp
theorem fl_len (g : Nat → Es.Ev) (t : Int) (k : Nat) : (fl g t k).length ≤ k := by
  have := List.length_filter_le (fun y : Es.Ev => decide (y.a + y.d < t)) (el g k)
  rw [el_len] at this
  exact this
theorem fl_in {g : Nat → Es.Ev} {t : Int} {k : Nat} {x : Es.Ev} (h : x ∈ fl g t k) : x ∈ el g k := (List.mem_filter.1 h).1
end Go.Proofs.Ytgkagigagcamoaa
