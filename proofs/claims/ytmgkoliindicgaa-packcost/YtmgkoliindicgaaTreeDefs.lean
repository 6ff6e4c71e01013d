
/-
Plain mathematics on weights: which error a list of weights has; what the cost of weights and lengths is; the one best code of four weights. No program is named here.
-/
import Derived.Test.YtmgkoliindicgaaTreeMore
import Derived.Test.YtmgkoliindicgaaCodeDefs
namespace Go.Proofs.Ytmgkoliindicgaa
namespace Hm

/-- A weight that is none. -/
def Off1 (x : Int) : Prop := x < 1 ∨ 10000 < x
instance (x : Int) : Decidable (Off1 x) := by unfold Off1; infer_instance
def wnE (g : Nat → Int) : Nat → Int
  | 0 => 0
  | n + 1 => if wnE g n ≠ 0 then wnE g n else if Off1 (g n) then 1 else 0
/-- The error of weights. -/
def wErr (g : Nat → Int) (n : Nat) : Int := if 12 < n then 2 else wnE g n
theorem wnE_zero {g : Nat → Int} : ∀ {n : Nat}, wnE g n = 0 ↔ ∀ j, j < n → ¬ Off1 (g j)
  | 0 => ⟨fun _ j hj => by omega, fun _ => rfl⟩
  | n + 1 => by
    unfold wnE
    by_cases h : wnE g n = 0
    · rw [if_neg (by simpa using h)]
      have h' := wnE_zero.1 h
      by_cases h2 : Off1 (g n)
      · rw [if_pos h2]
        constructor
        · intro h; cases h
        · intro h; exact absurd h2 (h n (by omega))
      · rw [if_neg h2]
        refine ⟨fun _ j hj => ?_, fun _ => rfl⟩
        by_cases e : j = n
        · subst e; exact h2
        · exact h' j (by omega)
    · rw [if_pos (by simpa using h)]
      constructor
      · intro h1; exact absurd h1 h
      · intro h1; exact absurd (wnE_zero.2 fun j hj => h1 j (by omega)) h
theorem wnE_two (g : Nat → Int) : ∀ n, wnE g n = 0 ∨ wnE g n = 1
  | 0 => .inl rfl
  | n + 1 => by
    unfold wnE
    rcases wnE_two g n with h | h
    · rw [if_neg (by simpa using h)]
      by_cases h2 : Off1 (g n)
      · rw [if_pos h2]; exact .inr rfl
      · rw [if_neg h2]; exact .inl rfl
    · rw [if_pos (by rw [h]; decide), h]; exact .inr rfl
theorem wnE_one {g : Nat → Int} {n j : Nat} (hj : j < n) (h : Off1 (g j)) : wnE g n = 1 := by
  rcases wnE_two g n with h1 | h1
  · exact absurd h (wnE_zero.1 h1 j hj)
  · exact h1
theorem wErr_zero {g : Nat → Int} {n : Nat} : wErr g n = 0 ↔ n ≤ 12 ∧ ∀ j, j < n → 1 ≤ g j ∧ g j ≤ 10000 := by
  unfold wErr
  by_cases h : 12 < n
  · rw [if_pos h]
    constructor
    · intro h1; cases h1
    · rintro ⟨h1, _⟩; omega
  · rw [if_neg h, wnE_zero]
    constructor
    · intro h1
      refine ⟨by omega, fun j hj => ?_⟩
      have := h1 j hj
      unfold Off1 at this
      omega
    · rintro ⟨_, h1⟩ j hj hx
      have := h1 j hj
      unfold Off1 at hx
      omega
/-- The weights as numbers. -/
theorem ln_pos {g : Nat → Int} {n : Nat} (h : wErr g n = 0) : ∀ j, j < n → 1 ≤ Cm.ln g j ∧ Cm.ln g j ≤ 10000 ∧ ((Cm.ln g j : Nat) : Int) = g j := fun j hj => by
  have := (wErr_zero.1 h).2 j hj
  unfold Cm.ln
  omega
/-- The error of weights and lengths. -/
def tErr (g : Nat → Int) (n : Nat) (l : Nat → Int) (m : Nat) : Int := if wErr g n ≠ 0 then wErr g n else if Cm.lErr l m ≠ 0 then Cm.lErr l m else if n ≠ m then 3 else 0
def tCost (g : Nat → Int) (n : Nat) (l : Nat → Int) (m : Nat) : Int := if tErr g n l m = 0 then ((ctot (Cm.ln g) (Cm.ln l) n : Nat) : Int) else 0
theorem tErr_zero {g l : Nat → Int} {n m : Nat} : tErr g n l m = 0 ↔ wErr g n = 0 ∧ Cm.lErr l m = 0 ∧ n = m := by
  unfold tErr
  by_cases h1 : wErr g n = 0
  · rw [if_neg (by simpa using h1)]
    by_cases h2 : Cm.lErr l m = 0
    · rw [if_neg (by simpa using h2)]
      by_cases h3 : n = m
      · rw [if_neg (by simpa using h3)]; exact ⟨fun _ => ⟨h1, h2, h3⟩, fun _ => rfl⟩
      · rw [if_pos h3]
        constructor
        · intro h; cases h
        · rintro ⟨_, _, h⟩; exact absurd h h3
    · rw [if_pos (by simpa using h2)]
      exact ⟨fun h => absurd h h2, fun ⟨_, h, _⟩ => h⟩
  · rw [if_pos (by simpa using h1)]
    exact ⟨fun h => absurd h h1, fun ⟨h, _⟩ => h⟩
theorem ctot_le {w l : Nat → Nat} {n : Nat} (hw : ∀ k, k < n → w k ≤ 50000) (hl : ∀ k, k < n → l k ≤ 12) : ctot w l n ≤ n * 600000 := by
  unfold ctot
  induction n with
  | zero => exact Nat.le_refl _
  | succ n ih =>
    have h1 := ih (fun k hk => hw k (by omega)) (fun k hk => hl k (by omega))
    have h2 : w n * l n ≤ 50000 * 12 := Nat.mul_le_mul (hw n (by omega)) (hl n (by omega))
    show Cm.sm (fun k => w k * l k) n + w n * l n ≤ _
    omega
/-- The best code for the weights 5, 1, 1, 2. -/
def w4 (k : Nat) : Nat := [5, 1, 1, 2].getD k 0
def fourT (a b c d : Nat) : Bool := a == 0 || b == 0 || c == 0 || d == 0 || decide (4096 < 2 ^ (12 - a) + 2 ^ (12 - b) + 2 ^ (12 - c) + 2 ^ (12 - d)) || decide (15 < 5 * a + b + c + 2 * d) || (a == 1 && b == 3 && c == 3 && d == 2)
theorem fourB : ((List.range 3).all fun a => (List.range 9).all fun b => (List.range 9).all fun c => (List.range 9).all fun d => fourT a b c d) = true := by decide +kernel
theorem four (a b c d : Nat) (ha : a < 3) (hb : b < 9) (hc : c < 9) (hd : d < 9) (a1 : 1 ≤ a) (b1 : 1 ≤ b) (c1 : 1 ≤ c) (d1 : 1 ≤ d) (h1 : 2 ^ (12 - a) + 2 ^ (12 - b) + 2 ^ (12 - c) + 2 ^ (12 - d) ≤ 4096) (h2 : 5 * a + b + c + 2 * d ≤ 15) : a = 1 ∧ b = 3 ∧ c = 3 ∧ d = 2 := by
  have h := List.all_eq_true.1 (List.all_eq_true.1 (List.all_eq_true.1 (List.all_eq_true.1 fourB a (List.mem_range.2 ha)) b (List.mem_range.2 hb)) c (List.mem_range.2 hc)) d (List.mem_range.2 hd)
  unfold fourT at h
  simp only [Bool.or_eq_true, Bool.and_eq_true, beq_iff_eq, decide_eq_true_eq] at h
  generalize 2 ^ (12 - a) + 2 ^ (12 - b) + 2 ^ (12 - c) + 2 ^ (12 - d) = X at h h1
  omega
theorem opt4 {l : Nat → Nat} (h : Opt w4 l 4) : l 0 = 1 ∧ l 1 = 3 ∧ l 2 = 3 ∧ l 3 = 2 := by
  have h1 := h.least 12 (fun k => [1, 3, 3, 2].getD k 0) (fun k hk => by match k, hk with | 0, _ => decide | 1, _ => decide | 2, _ => decide | 3, _ => decide) (by decide +kernel)
  have e1 : ctot w4 (fun k => [1, 3, 3, 2].getD k 0) 4 = 15 := by decide +kernel
  have e2 : ctot w4 l 4 = 0 + 5 * l 0 + 1 * l 1 + 1 * l 2 + 2 * l 3 := rfl
  have h2 : 0 + 2 ^ (12 - l 0) + 2 ^ (12 - l 1) + 2 ^ (12 - l 2) + 2 ^ (12 - l 3) ≤ 4096 := h.fit
  have a0 := h.len 0 (by omega)
  have a1 := h.len 1 (by omega)
  have a2 := h.len 2 (by omega)
  have a3 := h.len 3 (by omega)
  rw [e1, e2] at h1
  rw [Nat.zero_add] at h2
  exact four (l 0) (l 1) (l 2) (l 3) (by omega) (by omega) (by omega) (by omega) a0.1 a1.1 a2.1 a3.1 h2 (by omega)
end Hm
end Go.Proofs.Ytmgkoliindicgaa
