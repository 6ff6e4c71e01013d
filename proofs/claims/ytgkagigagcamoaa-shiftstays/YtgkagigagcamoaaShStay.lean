
/-
What is left of an operation past another: a byte that is put is put; one that is taken is the same one, or gone. No program is named here.
-/
import Derived.Test.YtgkagigagcamoaaShMath
namespace Go.Proofs.Ytgkagigagcamoaa.Sh

theorem past_put {x : Op} (y : Op) (f : Bool) (h : x.k = 1) : (past x y f).k = 1 ∧ (past x y f).b = x.b ∧ x.a - 1 ≤ (past x y f).a ∧ (past x y f).a ≤ x.a + 1 := by
  unfold past
  rw [if_neg (show ¬ (x.k = 2 ∧ y.k = 2 ∧ x.a = y.a) by omega)]
  repeat' split
  all_goals exact ⟨h, rfl, by first | omega | (simp only; omega), by first | omega | (simp only; omega)⟩
theorem past_not {x : Op} (y : Op) (f : Bool) (h : x.k = 3) : past x y f = x := by unfold past; rw [if_pos (.inl h)]
theorem past_none (x : Op) (f : Bool) : past x none_ f = x := by unfold past; rw [if_pos (.inr rfl)]
theorem past_take {s : List UInt8} {x y : Op} (f : Bool) (hk : x.k = 2) (hx : Ok s.length x) (hy : Ok s.length y) :
    ((past x y f).k = 3 ∧ y.k = 2 ∧ y.a = x.a) ∨ ((past x y f).k = 2 ∧ 0 ≤ (past x y f).a ∧ (past x y f).a < ((doL s y).length : Int) ∧ (doL s y)[(past x y f).a.toNat]? = s[x.a.toNat]?) := by
  obtain ⟨_, hx1⟩ := hx
  have hlen := do_len hy
  obtain ⟨_, hy1⟩ := hy
  have hxx : 0 ≤ x.a ∧ x.a < (s.length : Int) := by omega
  by_cases k3 : y.k = 3
  · right
    have e : past x y f = x := by unfold past; rw [if_pos (.inr k3)]
    rw [e, do_no k3]
    exact ⟨hk, hxx.1, hxx.2, rfl⟩
  · by_cases k2 : y.k = 2
    · have hl : lon y = -1 := by unfold lon; rw [if_neg (by omega), if_pos k2]
      have hyy : 0 ≤ y.a ∧ y.a < (s.length : Int) := by omega
      rw [hl] at hlen
      by_cases he : x.a = y.a
      · left
        have e : past x y f = none_ := by unfold past; rw [if_neg (by omega), if_pos ⟨hk, k2, he⟩]
        rw [e]
        exact ⟨rfl, k2, he.symm⟩
      · right
        rw [do_tak k2]
        rw [do_tak k2] at hlen
        by_cases hlt : y.a < x.a
        · have e : past x y f = ⟨x.k, x.a - 1, x.b⟩ := by unfold past; rw [if_neg (by omega), if_neg (by omega), if_neg (by omega), if_pos hlt]
          rw [e]
          refine ⟨hk, by simp only; omega, by simp only; omega, ?_⟩
          rw [tak_get (by omega), if_neg (by simp only; omega)]
          congr 1
          simp only
          omega
        · have e : past x y f = x := by unfold past; rw [if_neg (by omega), if_neg (by omega), if_neg (by omega), if_neg hlt]
          rw [e]
          refine ⟨hk, hxx.1, by omega, ?_⟩
          rw [tak_get (by omega), if_pos (by omega)]
    · right
      have k1 : y.k = 1 := by omega
      have hl : lon y = 1 := by unfold lon; rw [if_pos k1]
      have hyy : 0 ≤ y.a ∧ y.a ≤ (s.length : Int) := by omega
      rw [hl] at hlen
      rw [do_put k1]
      rw [do_put k1] at hlen
      by_cases hlt : y.a ≤ x.a
      · have e : past x y f = ⟨x.k, x.a + 1, x.b⟩ := by unfold past; rw [if_neg (by omega), if_neg (by omega), if_pos k1, if_pos (by omega)]
        rw [e]
        refine ⟨hk, by simp only; omega, by simp only; omega, ?_⟩
        rw [put_get (by omega), if_neg (by simp only; omega), if_neg (by simp only; omega)]
        congr 1
        simp only
        omega
      · have e : past x y f = x := by unfold past; rw [if_neg (by omega), if_neg (by omega), if_pos k1, if_neg (by omega)]
        rw [e]
        refine ⟨hk, hxx.1, by omega, ?_⟩
        rw [put_get (by omega), if_pos (by omega)]
end Go.Proofs.Ytgkagigagcamoaa.Sh
