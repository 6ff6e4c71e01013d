
/-
The contract of quillkeep.back: a text from behind; and of slices.Reverse at a slice of bytes.
-/
import Derived.Test.YtgkagigagcamoaaSeg6
import Derived.Laws.IdiomStrings
import Derived.Laws.BytesArg
import Derived.RegionTactic
import Derived.BigRegion
namespace Go.Proofs.Ytgkagigagcamoaa
open Go.RowKit

/-- Block b begins with the bytes h 0, h 1, ..; they may be written. -/
def BRow (w : World) (b n : Nat) (h : Nat → UInt8) : Prop :=
  ∀ k, k < n → w.cell? ⟨b, k, none⟩ = some (.int .u8 ((h k).toNat : Int)) ∧ w.frozen? ⟨b, k, none⟩ = false
theorem BRow.drewN {w : World} {b n : Nat} {h : Nat → UInt8} (H : BRow w b n h) (d : Nat) : BRow (w.drewN d) b n h := H
theorem BRow.drew {w : World} {b n : Nat} {h : Nat → UInt8} (H : BRow w b n h) : BRow w.drew b n h := H
theorem BRow.set_ {w : World} {b n : Nat} {h : Nat → UInt8} (H : BRow w b n h) {i : Nat} (hi : i < n) (x : UInt8) : BRow (w.setCell ⟨b, i, none⟩ (.int .u8 (x.toNat : Int))) b n (fun k => if k = i then x else h k) := by
  intro k hk
  have hf : (w.setCell ⟨b, i, none⟩ (.int .u8 (x.toNat : Int))).frozen? ⟨b, k, none⟩ = w.frozen? ⟨b, k, none⟩ := by simp
  refine ⟨?_, hf.trans (H k hk).2⟩
  by_cases e : k = i
  · subst e
    rw [World.cell?_setCell_same w _ _ (H k hk).1]
    simp
  · rw [World.cell?_setCell_other w _ _ _ (by intro h'; injection h' with _ h''; exact e h''.symm), (H k hk).1]
    simp [e]
theorem BRow.congr {w : World} {b n : Nat} {h h' : Nat → UInt8} (H : BRow w b n h) (e : ∀ k, k < n → h k = h' k) : BRow w b n h' := fun k hk => by
  rw [← e k hk]; exact H k hk

/-- What Reverse has done when it is at i. -/
def rv (h : Nat → UInt8) (n i k : Nat) : UInt8 := if k < i ∨ n ≤ k + i then h (n - 1 - k) else h k
theorem rv_zero (h : Nat → UInt8) (n k : Nat) (hk : k < n) : rv h n 0 k = h k := by unfold rv; rw [if_neg (by omega)]
theorem rv_mid {h : Nat → UInt8} {n i k : Nat} (h1 : i ≤ k) (h2 : k + i < n) : rv h n i k = h k := by unfold rv; rw [if_neg (by omega)]
theorem rv_succ {h : Nat → UInt8} {n i j k : Nat} (hij : i + j + 1 = n) (hlt : i < j) (_ : k < n) : (if k = j then h i else if k = i then h j else rv h n i k) = rv h n (i + 1) k := by
  unfold rv
  by_cases h1 : k = j
  · subst h1
    rw [if_pos rfl, if_pos (by omega)]
    congr 1; omega
  · rw [if_neg h1]
    by_cases h2 : k = i
    · subst h2
      rw [if_pos rfl, if_pos (by omega)]
      congr 1; omega
    · rw [if_neg h2]
      by_cases h3 : k < i ∨ n ≤ k + i
      · rw [if_pos h3, if_pos (by omega)]
      · rw [if_neg h3, if_neg (by omega)]
theorem rv_end {h : Nat → UInt8} {n i j k : Nat} (hij : i + j + 1 = n) (hle : j ≤ i) (hk : k < n) : rv h n i k = h (n - 1 - k) := by
  unfold rv
  by_cases h3 : k < i ∨ n ≤ k + i
  · rw [if_pos h3]
  · rw [if_neg h3]
    congr 1; omega

theorem rev_step {w wr : World} {b n i j : Nat} {h : Nat → UInt8} (hij : i + j + 1 = n) (hlt : i < j) (H : BRow wr b n (rv h n i)) (hb : Below b w wr) :
    ∀ d, BRow (((wr.drewN d).setCell ⟨b, i, none⟩ (.int .u8 ((h j).toNat : Int))).setCell ⟨b, j, none⟩ (.int .u8 ((h i).toNat : Int))) b n (rv h n (i + 1)) ∧
      Below b w (((wr.drewN d).setCell ⟨b, i, none⟩ (.int .u8 ((h j).toNat : Int))).setCell ⟨b, j, none⟩ (.int .u8 ((h i).toNat : Int))) := by
  intro d
  refine ⟨(((H.drewN d).set_ (show i < n by omega) (h j)).set_ (show j < n by omega) (h i)).congr fun k hk => rv_succ hij hlt hk, ?_⟩
  exact ((bl_drewN hb d).setCell (Nat.le_refl _) _).setCell (Nat.le_refl _) _

/-- s from behind. -/
def backS (s : ByteArray) : ByteArray := strOfNums ((List.range s.size).map fun k => ((byt s (s.size - 1 - k)).toNat : Int))
theorem backS_size (s : ByteArray) : (backS s).size = s.size := by unfold backS; rw [strOfNums_size]; simp
theorem backS_byt {s : ByteArray} {k : Nat} (h : k < s.size) : byt (backS s) k = byt s (s.size - 1 - k) := by
  unfold backS
  rw [byt, strOfNums_data, List.map_map, List.getD_eq_getElem?_getD, List.getElem?_map, List.getElem?_range h]
  simp
theorem new_bytes (w : World) (s : ByteArray) (c : Nat) (t : TypeId) : BRow (w.alloc (.cells (bytesRow s c) t ((bytesRow s c).size, (bytesRow s c).size + 1))) w.heap.size s.size (byt s) := by
  intro k hk
  have hz : s.size ≤ (bytesRow s c).size := by
    unfold bytesRow
    rw [Array.size_append, Array.size_map]
    exact Nat.le_add_right _ _
  refine ⟨?_, ?_⟩
  · rw [World.cell?_alloc_mark, bytesRow_at s c k hk, byt_eq hk]
    rfl
  · have hh : (w.alloc (.cells (bytesRow s c) t ((bytesRow s c).size, (bytesRow s c).size + 1))).heap[w.heap.size]? = some (.cells (bytesRow s c) t ((bytesRow s c).size, (bytesRow s c).size + 1)) := heap_alloc_new w _
    unfold World.frozen?
    rw [hh]
    simp
    omega

end Go.Proofs.Ytgkagigagcamoaa
