
/-
The contract of word.borders: the longest borders of all prefixes.
-/
import Derived.Test.YtejcijlmpiiffaaBase
import Derived.Test.YtejcijlmpiiffaaWordMath
namespace Go.Proofs.Ytejcijlmpiiffaa
open Go.RowKit

/-- What word.borders has written when it is at i. -/
def bfill (s : ByteArray) (i j : Nat) : Int := if j < i then (Wm.lb (byt s) (j + 1) : Int) else 0
theorem bfill_one (s : ByteArray) (j : Nat) : bfill s 1 j = 0 := by
  unfold bfill
  split
  · obtain rfl : j = 0 := by omega
    rw [Wm.lb_one]; rfl
  · rfl
theorem bfill_lt {s : ByteArray} {i j : Nat} (h : j < i) : bfill s i j = (Wm.lb (byt s) (j + 1) : Int) := by unfold bfill; rw [if_pos h]
theorem bfill_succ (s : ByteArray) (i j : Nat) : bfill s (i + 1) j = if j = i then (Wm.lb (byt s) (i + 1) : Int) else bfill s i j := by
  unfold bfill
  by_cases h : j = i
  · subst h; simp
  · rw [if_neg h]
    by_cases h2 : j < i
    · rw [if_pos h2, if_pos (by omega)]
    · rw [if_neg h2, if_neg (by omega)]
theorem rel_store {w wr : World} {s : ByteArray} {B n i : Nat} {t : TypeId} {v : Int} (hrow : wr.rowIs B t n (fun j => .int .i64 (bfill s i j))) (hbel : Below B w wr) (hv : v = (Wm.lb (byt s) (i + 1) : Int)) :
    ∀ d, ((wr.drewN d).setCell ⟨B, i, none⟩ (.int .i64 v)).rowIs B t n (fun j => .int .i64 (bfill s (i + 1) j)) ∧ Below B w ((wr.drewN d).setCell ⟨B, i, none⟩ (.int .i64 v)) := by
  intro d
  refine ⟨(World.rowIs.set (w := wr.drewN d) hrow i _).congr fun j _ => ?_, (bl_drewN hbel d).setCell (Nat.le_refl _) _⟩
  rw [bfill_succ]
  by_cases h : j = i
  · rw [if_pos h, if_pos h, hv]
  · rw [if_neg h, if_neg h]
end Go.Proofs.Ytejcijlmpiiffaa
