
/-
The contracts of quillref.Done and PlaceOf at a good script.
-/
import Derived.Test.YtgkagigagcamoaaRefEd
import Derived.Test.YtgkagigagcamoaaApp
import Derived.Laws.Concat
namespace Go.Proofs.Ytgkagigagcamoaa
open Go.RowKit

theorem el_getD {h : Nat → Es.Ev} {n k : Nat} (hk : k < n) : (el h n).getD k Es.none_ = h k := el_at hk
/-- A good script's edits as natural numbers. -/
theorem scr_nat {s : ByteArray} {h : Nat → Es.Ev} {n : Nat} {G : List Es.Sg} {q : List UInt8} (hs : Es.Scr (lst s) (el h n) G q) {k : Nat} (hk : k < n) : ∃ a d : Nat, (h k).a = (a : Int) ∧ (h k).d = (d : Int) ∧ a + d ≤ s.size ∧ (h k).s.size ≤ 40 := by
  have := Es.ch_at k hs.ch (by rw [el_len]; exact hk)
  rw [el_at hk, lst_len] at this
  obtain ⟨h1, _, h3, h4, h5⟩ := this
  obtain ⟨a, ha⟩ := Int.eq_ofNat_of_zero_le h1
  obtain ⟨d, hd⟩ := Int.eq_ofNat_of_zero_le h3
  exact ⟨a, d, ha, hd, by omega, h5⟩
theorem scr_small {s : ByteArray} {h : Nat → Es.Ev} {n : Nat} {G : List Es.Sg} {q : List UInt8} (hs : Es.Scr (lst s) (el h n) G q) : n ≤ 20 ∧ s.size ≤ 200 ∧ ∀ k, k < n → -1000000 ≤ ((h k).s.size : Int) - (h k).d ∧ ((h k).s.size : Int) - (h k).d ≤ 1000000 := by
  have h1 := hs.len
  rw [el_len] at h1
  have h2 := hs.few
  have h3 := hs.from_
  rw [lst_len] at h3
  refine ⟨by omega, h3, fun k hk => ?_⟩
  obtain ⟨a, d, e1, e2, e3, e4⟩ := scr_nat hs hk
  omega
/-- What PlaceOf answers. -/
def PlcPost (w : World) (v : Int × Bool) (e : Ending) (w' : World) : Prop := e = .returned (.tuple #[.int .i64 v.1, .bool v.2]) ∧ Below w.heap.size w w'
end Go.Proofs.Ytgkagigagcamoaa
