
/-
Plain mathematics on weights: SHANNON, FANO; what weighs more has no longer word; weights that are so many times as great. No program is named here.
-/
import Derived.Test.YtmgkoliindicgaaTreeMath
namespace Go.Proofs.Ytmgkoliindicgaa
namespace Hm
open Cm (sm)

theorem sm_le {f g : Nat → Nat} : ∀ {n : Nat}, (∀ k, k < n → f k ≤ g k) → sm f n ≤ sm g n
  | 0, _ => Nat.le_refl _
  | n + 1, h => Nat.add_le_add (sm_le fun k hk => h k (by omega)) (h n (by omega))
theorem sm_mul (c : Nat) (f : Nat → Nat) : ∀ n, sm (fun k => c * f k) n = c * sm f n
  | 0 => rfl
  | n + 1 => by
    show sm (fun k => c * f k) n + c * f n = c * (sm f n + f n)
    rw [sm_mul c f n, Nat.mul_add]
theorem sm_mulr (c : Nat) (f : Nat → Nat) (n : Nat) : sm (fun k => f k * c) n = sm f n * c := by
  rw [Nat.mul_comm, ← sm_mul]
  exact Cm.sm_congr fun k _ => Nat.mul_comm _ _
theorem sm_at (f : Nat → Nat) : ∀ {n i : Nat}, i < n → f i ≤ sm f n
  | 0, _, h => by omega
  | n + 1, i, h => by
    show f i ≤ sm f n + f n
    by_cases e : i = n
    · rw [e]; omega
    · have := sm_at f (n := n) (i := i) (by omega); omega
/-- One summand alone. -/
theorem sm_one (f : Nat → Nat) : ∀ {n i : Nat}, i < n → sm f n = f i + sm (fun j => if j = i then 0 else f j) n
  | 0, _, h => by omega
  | n + 1, i, h => by
    show sm f n + f n = f i + (sm (fun j => if j = i then 0 else f j) n + (if n = i then 0 else f n))
    by_cases e : n = i
    · subst e
      rw [if_pos rfl, Cm.sm_congr (f := fun j => if j = n then 0 else f j) (g := f) fun j hj => if_neg (by omega)]
      omega
    · rw [if_neg e, sm_one f (n := n) (i := i) (by omega)]
      omega
theorem sm_two (f : Nat → Nat) {n i k : Nat} (hi : i < n) (hk : k < n) (hne : i ≠ k) : sm f n = f i + f k + sm (fun j => if j = i ∨ j = k then 0 else f j) n := by
  rw [sm_one f hi, sm_one (fun j => if j = i then 0 else f j) hk, if_neg (fun e => hne e.symm)]
  rw [Cm.sm_congr (g := fun j => if j = i ∨ j = k then 0 else f j) fun j _ => ?_]
  · omega
  · by_cases h1 : j = k
    · rw [if_pos h1, if_pos (.inr h1)]
    · rw [if_neg h1]
      by_cases h2 : j = i
      · rw [if_pos h2, if_pos (.inl h2)]
      · rw [if_neg h2, if_neg (by omega)]
/-- The lengths of i and k exchanged. -/
def swp (l : Nat → Nat) (i k j : Nat) : Nat := if j = i then l k else if j = k then l i else l j
theorem swp_out (l : Nat → Nat) {i k j : Nat} (h : ¬ (j = i ∨ j = k)) : swp l i k j = l j := by unfold swp; rw [if_neg (by omega), if_neg (by omega)]
theorem Opt.heavy {w l : Nat → Nat} {n i k : Nat} (h : Opt w l n) (hi : i < n) (hk : k < n) (hw : w k < w i) : l i ≤ l k := by
  rcases Nat.lt_or_ge (l k) (l i) with hlt | hge
  · exfalso
    have hne : i ≠ k := fun e => by rw [e] at hw; omega
    have si : swp l i k i = l k := by unfold swp; rw [if_pos rfl]
    have sk : swp l i k k = l i := by unfold swp; rw [if_neg (fun e => hne e.symm), if_pos rfl]
    have e1 : ksum 12 (swp l i k) n = ksum 12 l n := by
      unfold ksum
      rw [sm_two _ hi hk hne, sm_two (fun k => 2 ^ (12 - l k)) hi hk hne, si, sk]
      rw [Cm.sm_congr (g := fun j => if j = i ∨ j = k then 0 else 2 ^ (12 - l j)) fun j _ => ?_]
      · omega
      · by_cases h1 : j = i ∨ j = k
        · rw [if_pos h1, if_pos h1]
        · rw [if_neg h1, if_neg h1, swp_out l h1]
    have h1 := h.least 12 (swp l i k) (fun j hj => by
      unfold swp
      by_cases h1 : j = i
      · rw [if_pos h1]; exact h.len k hk
      · rw [if_neg h1]
        by_cases h2 : j = k
        · rw [if_pos h2]; exact h.len i hi
        · rw [if_neg h2]; exact h.len j hj) (by rw [e1]; exact h.fit)
    unfold ctot at h1
    rw [sm_two (fun k => w k * l k) hi hk hne, sm_two (fun j => w j * swp l i k j) hi hk hne, si, sk] at h1
    rw [Cm.sm_congr (f := fun j => if j = i ∨ j = k then 0 else w j * swp l i k j) (g := fun j => if j = i ∨ j = k then 0 else w j * l j) fun j _ => by
      by_cases h1 : j = i ∨ j = k
      · rw [if_pos h1, if_pos h1]
      · rw [if_neg h1, if_neg h1, swp_out l h1]] at h1
    have h2 : w i * l k + w k * l i < w i * l i + w k * l k := by
      obtain ⟨d, hd⟩ := Nat.exists_eq_add_of_lt hw
      obtain ⟨e, he⟩ := Nat.exists_eq_add_of_lt hlt
      rw [hd, he]
      simp only [Nat.add_mul, Nat.mul_add, Nat.one_mul, Nat.mul_one]
      omega
    omega
  · exact hge
/-- So many times as heavy, so many times the cost. -/
theorem Opt.times {w v l m : Nat → Nat} {n b : Nat} (h : Opt w l n) (k : Opt v m n) (hv : ∀ j, j < n → v j = b * w j) : ctot v m n = b * ctot w l n := by
  have e : ∀ x : Nat → Nat, ctot v x n = b * ctot w x n := fun x => by
    unfold ctot
    rw [← sm_mul]
    exact Cm.sm_congr fun j hj => by rw [hv j hj, Nat.mul_assoc]
  refine Nat.le_antisymm ?_ ?_
  · rw [← e]
    exact k.least 12 l h.len h.fit
  · rw [e]
    exact Nat.mul_le_mul_left b (h.least 12 m k.len k.fit)
/-! ### SHANNON, FANO -/
/-- n is the number of twos that it takes from w to A. -/
def Twos (A w n : Nat) : Prop := A ≤ w * 2 ^ n ∧ ∀ k, k < n → w * 2 ^ k < A
theorem Twos.unique {A w n m : Nat} (h : Twos A w n) (k : Twos A w m) : n = m := by
  rcases Nat.lt_trichotomy n m with h1 | h1 | h1
  · have := k.2 n h1; have := h.1; omega
  · exact h1
  · have := h.2 m h1; have := k.1; omega
theorem succ_le_pow : ∀ k : Nat, k + 1 ≤ 2 ^ k
  | 0 => by decide
  | k + 1 => by
    have := succ_le_pow k
    rw [Nat.pow_succ]
    omega
/-- No lengths cost less than one less each. -/
theorem gibbs {M : Nat} {w l m : Nat → Nat} {n : Nat} (h1 : ∀ k, k < n → l k ≤ M) (h2 : ksum M l n ≤ 2 ^ M) (h3 : ∀ k, k < n → w k * 2 ^ m k ≤ sm w n) : ctot w m n ≤ ctot w l n := by
  have key : ∀ k, k < n → w k * (1 + m k) * 2 ^ M ≤ sm w n * 2 ^ (M - l k) + w k * l k * 2 ^ M := by
    intro k hk
    have hl := h1 k hk
    by_cases hm : l k ≤ m k
    · obtain ⟨d, hd⟩ := Nat.exists_eq_add_of_le hm
      have e1 : 2 ^ m k * 2 ^ (M - l k) = 2 ^ d * 2 ^ M := by rw [← Nat.pow_add, ← Nat.pow_add]; congr 1; omega
      have e2 : w k * 2 ^ m k * 2 ^ (M - l k) ≤ sm w n * 2 ^ (M - l k) := Nat.mul_le_mul_right _ (h3 k hk)
      rw [Nat.mul_assoc, e1] at e2
      have e3 : w k * ((d + 1) * 2 ^ M) ≤ w k * (2 ^ d * 2 ^ M) := Nat.mul_le_mul_left _ (Nat.mul_le_mul_right _ (succ_le_pow d))
      have e4 : w k * (1 + m k) * 2 ^ M = w k * ((d + 1) * 2 ^ M) + w k * l k * 2 ^ M := by
        rw [hd, show 1 + (l k + d) = (d + 1) + l k by omega, Nat.mul_add, Nat.add_mul, Nat.mul_assoc (w k) (d + 1)]
      omega
    · have : w k * (1 + m k) * 2 ^ M ≤ w k * l k * 2 ^ M := Nat.mul_le_mul_right _ (Nat.mul_le_mul_left _ (by omega))
      omega
  have hs := sm_le key
  rw [Cm.sm_add, sm_mulr, sm_mulr, sm_mul] at hs
  have hk : sm w n * ksum M l n ≤ sm w n * 2 ^ M := Nat.mul_le_mul_left _ h2
  have e5 : sm (fun k => w k * (1 + m k)) n = sm w n + ctot w m n := by
    unfold ctot
    rw [← Cm.sm_add]
    exact Cm.sm_congr fun j _ => by rw [Nat.mul_add, Nat.mul_one]
  rw [e5] at hs
  have h6 : (sm w n + ctot w m n) * 2 ^ M ≤ (sm w n + ctot w l n) * 2 ^ M := by
    rw [Nat.add_mul (sm w n) (ctot w l n)]
    unfold ksum at hk
    unfold ctot at hs ⊢
    omega
  have := Nat.le_of_mul_le_mul_right h6 (Nat.two_pow_pos M)
  omega
/-- So many twos each are lengths of a code. -/
theorem twos_fit {M : Nat} {w t : Nat → Nat} {n : Nat} (h1 : ∀ k, k < n → t k ≤ M) (h2 : ∀ k, k < n → sm w n ≤ w k * 2 ^ t k) (h0 : 0 < sm w n) : ksum M t n ≤ 2 ^ M := by
  have key : ∀ k, k < n → sm w n * 2 ^ (M - t k) ≤ w k * 2 ^ M := by
    intro k hk
    have e1 : 2 ^ t k * 2 ^ (M - t k) = 2 ^ M := by rw [← Nat.pow_add]; congr 1; have := h1 k hk; omega
    have := Nat.mul_le_mul_right (2 ^ (M - t k)) (h2 k hk)
    rw [Nat.mul_assoc, e1] at this
    exact this
  have hs := sm_le key
  rw [sm_mul, sm_mulr] at hs
  exact Nat.le_of_mul_le_mul_left hs h0
theorem bnd (t : Nat → Nat) : ∀ n, ∃ M, ∀ k, k < n → t k ≤ M
  | 0 => ⟨0, fun k hk => by omega⟩
  | n + 1 => by
    obtain ⟨M, h⟩ := bnd t n
    refine ⟨M + t n, fun k hk => ?_⟩
    by_cases e : k = n
    · rw [e]; omega
    · have := h k (by omega); omega
theorem Opt.shannon {w l t : Nat → Nat} {n : Nat} (h : Opt w l n) (hw : ∀ k, k < n → 1 ≤ w k) (hn : 2 ≤ n) (ht : ∀ k, k < n → Twos (sm w n) (w k) (t k)) :
    ctot w l n ≤ ctot w t n ∧ ctot w t n ≤ ctot w l n + sm w n ∧ sm w n ≤ ctot w l n := by
  have h0 : 0 < sm w n := Nat.lt_of_lt_of_le (hw 0 (by omega)) (sm_at w (by omega))
  have hlt : ∀ k, k < n → w k < sm w n := by
    intro k hk
    obtain ⟨j, hj, hjk⟩ : ∃ j, j < n ∧ k ≠ j := by
      by_cases hk0 : k = 0
      · exact ⟨1, by omega, by omega⟩
      · exact ⟨0, by omega, by omega⟩
    have := sm_two w hk hj hjk
    have := hw j hj
    omega
  have ht1 : ∀ k, k < n → 1 ≤ t k := by
    intro k hk
    rcases Nat.eq_zero_or_pos (t k) with h1 | h1
    · have h2 := (ht k hk).1
      rw [h1, Nat.pow_zero, Nat.mul_one] at h2
      have := hlt k hk
      omega
    · exact h1
  refine ⟨?_, ?_, ?_⟩
  · obtain ⟨M, hM⟩ := bnd t n
    exact h.least M t (fun k hk => ⟨ht1 k hk, hM k hk⟩) (twos_fit hM (fun k hk => (ht k hk).1) h0)
  · have hg := gibbs (M := 12) (w := w) (l := l) (m := fun k => t k - 1) (n := n) (fun k hk => (h.len k hk).2) h.fit fun k hk => Nat.le_of_lt ((ht k hk).2 _ (by have := ht1 k hk; omega))
    have e : ctot w t n = ctot w (fun k => t k - 1) n + sm w n := by
      unfold ctot
      rw [← Cm.sm_add]
      refine Cm.sm_congr fun k hk => ?_
      obtain ⟨d, hd⟩ : ∃ d, t k = d + 1 := ⟨t k - 1, by have := ht1 k hk; omega⟩
      show w k * t k = w k * (t k - 1) + w k
      rw [hd, Nat.add_sub_cancel, Nat.mul_add, Nat.mul_one]
    omega
  · refine sm_le fun k hk => ?_
    have := Nat.mul_le_mul_left (w k) (h.len k hk).1
    omega
end Hm
end Go.Proofs.Ytmgkoliindicgaa
