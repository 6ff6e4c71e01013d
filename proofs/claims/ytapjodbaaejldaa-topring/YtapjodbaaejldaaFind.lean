
/-
The contract of seek.Find.
-/
import Derived.Test.YtapjodbaaejldaaPositions
namespace Go.Proofs.Ytapjodbaaejldaa
open Go.RowKit

/-- No numbers, and an error. -/
def NoInts (x : Int) (w : World) (e : Ending) (w' : World) : Prop := e = .returned (.tuple #[.slice none 0 0, .int .i64 x]) ∧ Below w.heap.size w w'
theorem Find_ok (s p : ByteArray) (w : World) (hs : s.size ≤ 200) (hp : p.size ≤ 200) (h0 : 0 < p.size) :
    Calls Try.prog 47 #[.string s, .string p] w (RetIntsOk (fiL s p).length (fun k => (fiL s p).getD k 0) w) := by
  have hne := some_bytes h0
  go_enter Try.func47, Try.ntmps47
  go_wp2_with fail
  with_reducible refine (check_ok s _ hs).mono ?_
  rintro e w1 ⟨rfl, rfl⟩
  go_wp2_with fail
  with_reducible refine (Borders_ok p _ hp).mono ?_
  rintro e w1 ⟨A, c, rfl, hrow, hbel⟩
  have HR := hid hrow
  clear hrow
  go_wp2_with fail
  with_reducible refine (positions_any s p A c _ hs hp h0 HR.out).mono ?_
  rintro e w2 ⟨A2, c2, rfl, hrow2, hbel2⟩
  have HR2 := hid hrow2
  clear hrow2
  go_wp2
  go_ret2
  exact ⟨_, _, rfl, HR2.out, bl_then hbel hbel2⟩
theorem Find_large (s p : ByteArray) (w : World) (hs : 200 < s.size) : Calls Try.prog 47 #[.string s, .string p] w (NoInts 2 w) := by
  go_enter Try.func47, Try.ntmps47
  go_wp2_with fail
  with_reducible refine (check_large s _ hs).mono ?_
  rintro e w1 ⟨rfl, rfl⟩
  go_wp2
  go_ret2
  exact ⟨rfl, Below.refl _ _⟩
theorem Find_long (s p : ByteArray) (w : World) (hs : s.size ≤ 200) (hp : 200 < p.size) : Calls Try.prog 47 #[.string s, .string p] w (NoInts 2 w) := by
  go_enter Try.func47, Try.ntmps47
  go_wp2_with fail
  with_reducible refine (check_ok s _ hs).mono ?_
  rintro e w1 ⟨rfl, rfl⟩
  go_wp2_with fail
  with_reducible refine (Borders_large p _ hp).mono ?_
  rintro e w1 ⟨rfl, rfl⟩
  go_wp2
  go_ret2
  exact ⟨rfl, Below.refl _ _⟩
theorem Find_empty (s p : ByteArray) (w : World) (hs : s.size ≤ 200) (hp : p.size = 0) : Calls Try.prog 47 #[.string s, .string p] w (NoInts 5 w) := by
  have he := no_bytes hp
  have hp2 : p.size ≤ 200 := by omega
  clear hp
  go_enter Try.func47, Try.ntmps47
  go_wp2_with fail
  with_reducible refine (check_ok s _ hs).mono ?_
  rintro e w1 ⟨rfl, rfl⟩
  go_wp2_with fail
  with_reducible refine (Borders_ok p _ hp2).mono ?_
  rintro e w1 ⟨A, c, rfl, hrow, hbel⟩
  clear hrow
  go_wp2
  go_ret2
  exact ⟨rfl, hbel⟩
/-- The error of Find, 0 if there is none. -/
def findErr (s p : ByteArray) : Int := if 200 < s.size then 2 else if 200 < p.size then 2 else if p.size = 0 then 5 else 0
theorem findErr_ok {s p : ByteArray} (h : findErr s p = 0) : s.size ≤ 200 ∧ p.size ≤ 200 ∧ 0 < p.size := by
  unfold findErr at h
  split at h
  · cases h
  · split at h
    · cases h
    · split at h
      · cases h
      · omega
theorem findErr_cases (s p : ByteArray) : findErr s p = 0 ∨ findErr s p = 5 ∨ findErr s p = 2 := by
  unfold findErr
  split
  · exact .inr (.inr rfl)
  · split
    · exact .inr (.inr rfl)
    · split
      · exact .inr (.inl rfl)
      · exact .inl rfl
theorem Find_err (s p : ByteArray) (w : World) (h : findErr s p ≠ 0) : Calls Try.prog 47 #[.string s, .string p] w (NoInts (findErr s p) w) := by
  unfold findErr at h ⊢
  by_cases h1 : 200 < s.size
  · rw [if_pos h1]; exact Find_large s p w h1
  · rw [if_neg h1] at h ⊢
    by_cases h2 : 200 < p.size
    · rw [if_pos h2]; exact Find_long s p w (by omega) h2
    · rw [if_neg h2] at h ⊢
      by_cases h3 : p.size = 0
      · rw [if_pos h3]; exact Find_empty s p w (by omega) h3
      · rw [if_neg h3] at h; exact absurd rfl h

/-- A place is in the list just if p stands there. -/
def Stands (s p : ByteArray) (x : Nat) : Prop := x + p.size ≤ s.size ∧ Wm.At (byt s) (byt p) p.size x
theorem fiL_get {s p : ByteArray} {k : Nat} (h : k < (fiL s p).length) : ∃ x : Nat, (fiL s p).getD k 0 = (x : Int) ∧ Stands s p x := by
  unfold fiL ocL at h ⊢
  rw [List.length_map] at h
  have hm := Wm.oc_mem.1 (List.getElem_mem h)
  refine ⟨(Wm.oc (byt s) (byt p) p.size (s.size + 1 - p.size))[k], ?_, by omega, hm.2⟩
  rw [List.getD_eq_getElem?_getD, List.getElem?_map, List.getElem?_eq_getElem h]
  rfl
theorem fiL_find {s p : ByteArray} {x : Nat} (hx : Stands s p x) : ∃ k, k < (fiL s p).length ∧ (fiL s p).getD k 0 = (x : Int) := by
  have hm : x ∈ Wm.oc (byt s) (byt p) p.size (s.size + 1 - p.size) := Wm.oc_mem.2 ⟨by have := hx.1; omega, hx.2⟩
  obtain ⟨k, hk, e⟩ := List.getElem_of_mem hm
  refine ⟨k, by unfold fiL ocL; rw [List.length_map]; exact hk, ?_⟩
  unfold fiL ocL
  rw [List.getD_eq_getElem?_getD, List.getElem?_map, List.getElem?_eq_getElem hk, e]
  rfl
theorem fiL_len {s p : ByteArray} (h0 : 0 < p.size) : (fiL s p).length ≤ s.size := by
  have := ocL_len s p (s.size + 1 - p.size)
  unfold fiL
  omega
theorem fiL_rise {s p : ByteArray} {k j : Nat} (hkj : k < j) (h : j < (fiL s p).length) : (fiL s p).getD k 0 < (fiL s p).getD j 0 := by
  unfold fiL ocL at h ⊢
  rw [List.length_map] at h
  have hp := List.pairwise_iff_getElem.1 (Wm.oc_sorted (byt s) (byt p) p.size (s.size + 1 - p.size)) k j (by omega) h hkj
  rw [List.getD_eq_getElem?_getD, List.getD_eq_getElem?_getD, List.getElem?_map, List.getElem?_map, List.getElem?_eq_getElem h, List.getElem?_eq_getElem (show k < _ by omega)]
  simp only [Option.map_some, Option.getD_some]
  omega
end Go.Proofs.Ytapjodbaaejldaa
