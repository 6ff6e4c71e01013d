/-
Several texts of this proof, one behind the other.
-/
import Derived.Test.YtgkagigagcamoaaSeg6
import Derived.Test.YtgkagigagcamoaaMathAll
import Derived.Test.YtgkagigagcamoaaLst
import Derived.Deep.RegionHeld3

/-
The contract of word.borders: the longest borders of all prefixes.
-/
namespace Go.Proofs.Ytgkagigagcamoaa
open Go.RowKit

/-- What word.borders has written when it is at i. -/
def bfill (s : ByteArray) (i j : Nat) : Int := if j < i then (Wm.lb (byt s) (j + 1) : Int) else 0
theorem bfill_one (s : ByteArray) (j : Nat) : bfill s 1 j = 0 := by
  unfold bfill
  split
  · obtain rfl : j = 0 := by omega
    rw [Wm.lb_one]; rfl
  · rfl
theorem bfill_lt {s : ByteArray} {i j : Nat} (h : j < i) : bfill s i j = (Wm.lb (byt s) (j + 1) : Int) := by unfold bfill; rw [if_pos h]
theorem bfill_succ (s : ByteArray) (i j : Nat) : bfill s (i + 1) j = if j = i then (Wm.lb (byt s) (i + 1) : Int) else bfill s i j := by
  unfold bfill
  by_cases h : j = i
  · subst h; simp
  · rw [if_neg h]
    by_cases h2 : j < i
    · rw [if_pos h2, if_pos (by omega)]
    · rw [if_neg h2, if_neg (by omega)]
theorem rel_store {w wr : World} {s : ByteArray} {B n i : Nat} {t : TypeId} {v : Int} (hrow : wr.rowIs B t n (fun j => .int .i64 (bfill s i j))) (hbel : Below B w wr) (hv : v = (Wm.lb (byt s) (i + 1) : Int)) :
    ∀ d, ((wr.drewN d).setCell ⟨B, i, none⟩ (.int .i64 v)).rowIs B t n (fun j => .int .i64 (bfill s (i + 1) j)) ∧ Below B w ((wr.drewN d).setCell ⟨B, i, none⟩ (.int .i64 v)) := by
  intro d
  refine ⟨(World.rowIs.set (w := wr.drewN d) hrow i _).congr fun j _ => ?_, (bl_drewN hbel d).setCell (Nat.le_refl _) _⟩
  rw [bfill_succ]
  by_cases h : j = i
  · rw [if_pos h, if_pos h, hv]
  · rw [if_neg h, if_neg h]
end Go.Proofs.Ytgkagigagcamoaa


/-
The contracts of word.Check and word.Borders.
-/
namespace Go.Proofs.Ytgkagigagcamoaa
open Go.RowKit

theorem check_ok (s : ByteArray) (w : World) (hs : s.size ≤ 200) : Calls Try.prog 65 #[.string s] w fun e w' => e = .returned (.int .i64 0) ∧ w = w' := by
  go_enter Try.func65, Try.ntmps65
  go_wp2
  go_ret
  exact ⟨rfl, rfl⟩
theorem check_large (s : ByteArray) (w : World) (hs : 200 < s.size) : Calls Try.prog 65 #[.string s] w fun e w' => e = .returned (.int .i64 2) ∧ w = w' := by
  go_enter Try.func65, Try.ntmps65
  go_wp2
  go_ret
  exact ⟨rfl, rfl⟩

/-- A slice of n numbers in new memory, and no error. -/
def RetIntsOk (n : Nat) (g : Nat → Int) (w : World) (e : Ending) (w' : World) : Prop :=
  ∃ A c, e = .returned (.tuple #[.slice A n c, .int .i64 0]) ∧ IRow w' A n g ∧ Below w.heap.size w w'

end Go.Proofs.Ytgkagigagcamoaa


/-
The contract of suffix.shared: how many bytes two strings begin alike with.
-/
namespace Go.Proofs.Ytgkagigagcamoaa
open Go.RowKit

/-- What is written when the numbers g 0, g 1, .. are stored up to i. -/
def fillG (g : Nat → Int) (i j : Nat) : Int := if j < i then g j else 0
theorem fillG_lt {g : Nat → Int} {i j : Nat} (h : j < i) : fillG g i j = g j := by unfold fillG; rw [if_pos h]
theorem fillG_succ (g : Nat → Int) (i j : Nat) : fillG g (i + 1) j = if j = i then g i else fillG g i j := by
  unfold fillG
  by_cases h : j = i
  · subst h; simp
  · rw [if_neg h]
    by_cases h2 : j < i
    · rw [if_pos h2, if_pos (by omega)]
    · rw [if_neg h2, if_neg (by omega)]
theorem fill_store {w wr : World} {g : Nat → Int} {b B n i : Nat} {t : TypeId} {v : Int} (hrow : wr.rowIs b t n (fun j => .int .i64 (fillG g i j))) (hbel : Below B w wr) (hB : B ≤ b) (hv : v = g i) :
    ∀ d, ((wr.drewN d).setCell ⟨b, i, none⟩ (.int .i64 v)).rowIs b t n (fun j => .int .i64 (fillG g (i + 1) j)) ∧ Below B w ((wr.drewN d).setCell ⟨b, i, none⟩ (.int .i64 v)) := by
  intro d
  refine ⟨(World.rowIs.set (w := wr.drewN d) hrow i _).congr fun j _ => ?_, (bl_drewN hbel d).setCell hB _⟩
  rw [fillG_succ]
  by_cases h : j = i
  · rw [if_pos h, if_pos h, hv]
  · rw [if_neg h, if_neg h]

end Go.Proofs.Ytgkagigagcamoaa

