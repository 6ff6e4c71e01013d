
/-
What package shift answers, as words: DoIs (Do), PastIs (Past), AllIs (All). No program is named here.
-/
import Derived.Test.YtgkagigagcamoaaShMath
import Derived.Test.YtgkagigagcamoaaSeg6
namespace Go.Proofs.Ytgkagigagcamoaa

/-- What Do answers. -/
def DoIs (s : ByteArray) (x : Sh.Op) (t : ByteArray) (e : Int) : Prop :=
  e = Sh.opErr (s.size : Int) x ∧ t = if e = 0 then mkS (Sh.doL (lst s) x) else ByteArray.empty
def pastErr (n : Int) (x y : Sh.Op) : Int := if Sh.opErr n x = 0 then Sh.opErr n y else Sh.opErr n x
/-- What Past answers. -/
def PastIs (n : Int) (x y : Sh.Op) (f : Bool) (z : Sh.Op) (e : Int) : Prop :=
  e = pastErr n x y ∧ z = if e = 0 then Sh.past x y f else Sh.zero
/-- What is wrong with a row, as 64 bits reckon it; c: how many operations there are in all. -/
def sErrW (c : Int) : Int → List Sh.Op → Int
  | n, [] => if 200 < IntKind.i64.wrap (n + c) then 11 else 0
  | n, x :: L => if Sh.opErr n x = 0 then sErrW c (n + Sh.lon x) L else Sh.opErr n x
def allW (n : Int) (A B : List Sh.Op) : Int :=
  if 30 < A.length ∨ 30 < B.length then 2
  else if sErrW (A.length + B.length) n A = 0 then sErrW (A.length + B.length) n B else sErrW (A.length + B.length) n A
/-- What All answers. -/
def AllIs (n : Int) (A B u v : List Sh.Op) (e : Int) : Prop :=
  e = Sh.allErr n A B ∧ u = (if e = 0 then (Sh.allA A B).1 else []) ∧ v = (if e = 0 then (Sh.allA A B).2 else [])
theorem op_range {n : Int} {x : Sh.Op} (h : Sh.opErr n x = 0) : 0 ≤ n ∧ n ≤ 200 := by
  obtain ⟨h1, h2, _⟩ := Sh.err_zero.1 h
  exact ⟨h1.1, h2⟩
theorem op_far {n : Int} {x : Sh.Op} (h : n < 0 ∨ 200 < n) : Sh.opErr n x = 1 := by unfold Sh.opErr; rw [if_pos h]
theorem sErrW_is {c : Int} (h0 : 0 ≤ c) (hc : c ≤ 1000) : ∀ {L : List Sh.Op} {n : Int}, -9223372036854775808 ≤ n → n + c ≤ 9223372036854775807 → sErrW c n L = Sh.sErr c n L
  | [], n, h1, h2 => by
    simp only [sErrW, Sh.sErr]
    rw [IntWalk.i64_in _ (by omega)]
  | x :: L, n, h1, h2 => by
    simp only [sErrW, Sh.sErr]
    by_cases h : Sh.opErr n x = 0
    · have := op_range h
      have := Sh.lon_le x
      rw [if_pos h, if_pos h, sErrW_is h0 hc (L := L) (by omega) (by omega)]
    · rw [if_neg h, if_neg h]
/-- It is the document's answer but where 64 bits don't hold the sum. -/
theorem allW_is {n : Int} {A B : List Sh.Op} (h1 : -9223372036854775808 ≤ n) (h2 : n + (A.length + B.length) ≤ 9223372036854775807) : allW n A B = Sh.allErr n A B := by
  unfold allW Sh.allErr
  split
  · rfl
  · rw [sErrW_is (by omega) (by omega) h1 h2, sErrW_is (by omega) (by omega) h1 h2]
theorem allW_zero {n : Int} {A B : List Sh.Op} (h1 : -9223372036854775808 ≤ n) (h2 : n ≤ 9223372036854775807) : allW n A B = 0 ↔ Sh.allErr n A B = 0 := by
  by_cases hn : n ≤ 200
  · by_cases hl : 30 < A.length ∨ 30 < B.length
    · unfold allW Sh.allErr
      rw [if_pos hl, if_pos hl]
    · rw [allW_is h1 (by omega)]
  · unfold allW Sh.allErr
    split
    · exact Iff.rfl
    · have far : ∀ (c : Int) (x : Sh.Op) (L : List Sh.Op), sErrW c n (x :: L) = 1 ∧ Sh.sErr c n (x :: L) = 1 := fun c x L => by
        simp only [sErrW, Sh.sErr]
        rw [op_far (.inr (by omega))]
        exact ⟨rfl, rfl⟩
      match A, B with
      | [], [] =>
        have e : sErrW (([] : List Sh.Op).length + ([] : List Sh.Op).length) n [] = Sh.sErr (([] : List Sh.Op).length + ([] : List Sh.Op).length) n [] := sErrW_is (by simp) (by simp) h1 (by simpa using h2)
        rw [e]
      | [], y :: B =>
        rw [(far _ y B).1, (far _ y B).2]
        have e : ¬ Sh.sErr ((([] : List Sh.Op).length : Int) + ((y :: B).length : Int)) n [] = 0 := by
          simp only [Sh.sErr]
          rw [if_pos (by simp; omega)]
          decide
        rw [if_neg e]
        constructor
        · intro k
          split at k
          · exact absurd k (by decide)
          · rename_i hq; exact absurd k hq
        · intro k
          exact absurd k e
      | x :: A, B =>
        rw [(far _ x A).1, (far _ x A).2, if_neg (by decide), if_neg (by decide)]
theorem DoIs.ok {s t : ByteArray} {x : Sh.Op} {e : Int} (h : DoIs s x t e) (he : Sh.opErr (s.size : Int) x = 0) : e = 0 ∧ t = mkS (Sh.doL (lst s) x) := by
  obtain ⟨h1, h2⟩ := h
  rw [he] at h1
  subst h1
  exact ⟨rfl, h2⟩
theorem DoIs.val {s t : ByteArray} {x : Sh.Op} {e : Int} (h : DoIs s x t e) (he : e = 0) : Sh.opErr (s.size : Int) x = 0 ∧ t = mkS (Sh.doL (lst s) x) := by
  obtain ⟨h1, h2⟩ := h
  subst he
  exact ⟨h1.symm, h2⟩
theorem DoIs.none_ {s t : ByteArray} {x : Sh.Op} {e : Int} (h : DoIs s x t e) (he : e ≠ 0) : t = ByteArray.empty := by
  obtain ⟨h1, h2⟩ := h
  rw [if_neg he] at h2
  exact h2
theorem past_zero {n : Int} {x y : Sh.Op} : pastErr n x y = 0 ↔ Sh.opErr n x = 0 ∧ Sh.opErr n y = 0 := by
  unfold pastErr
  split
  · rename_i h; exact ⟨fun k => ⟨h, k⟩, fun k => k.2⟩
  · rename_i h; exact ⟨fun k => absurd k h, fun k => absurd k.1 h⟩
theorem PastIs.ok {n : Int} {x y z : Sh.Op} {f : Bool} {e : Int} (h : PastIs n x y f z e) (hx : Sh.opErr n x = 0) (hy : Sh.opErr n y = 0) : e = 0 ∧ z = Sh.past x y f := by
  obtain ⟨h1, h2⟩ := h
  rw [past_zero.2 ⟨hx, hy⟩] at h1
  subst h1
  exact ⟨rfl, h2⟩
theorem PastIs.none_ {n : Int} {x y z : Sh.Op} {f : Bool} {e : Int} (h : PastIs n x y f z e) (he : e ≠ 0) : z = Sh.zero := by
  obtain ⟨h1, h2⟩ := h
  rw [if_neg he] at h2
  exact h2
theorem AllIs.ok {n : Int} {A B u v : List Sh.Op} {e : Int} (h : AllIs n A B u v e) (he : e = 0) : Sh.allErr n A B = 0 ∧ u = (Sh.allA A B).1 ∧ v = (Sh.allA A B).2 := by
  obtain ⟨h1, h2, h3⟩ := h
  subst he
  exact ⟨h1.symm, h2, h3⟩
theorem AllIs.none_ {n : Int} {A B u v : List Sh.Op} {e : Int} (h : AllIs n A B u v e) (he : e ≠ 0) : u = [] ∧ v = [] := by
  obtain ⟨h1, h2, h3⟩ := h
  rw [if_neg he] at h2 h3
  exact ⟨h2, h3⟩
theorem AllIs.same {n : Int} {A B u v u' v' : List Sh.Op} {e e' : Int} (h : AllIs n A B u v e) (k : AllIs n A B u' v' e') : u = u' ∧ v = v' ∧ e = e' := by
  obtain ⟨h1, h2, h3⟩ := h
  obtain ⟨k1, k2, k3⟩ := k
  obtain rfl : e = e' := h1.trans k1.symm
  exact ⟨h2.trans k2.symm, h3.trans k3.symm, rfl⟩
end Go.Proofs.Ytgkagigagcamoaa
