
/-
Plain mathematics on Lyndon words, by places: the order of words, the longest Lyndon word at the front, the least turn, the next word. No program is named here.
-/
import Derived.Test.YtejcijlmpiiffaaRootMath
namespace Go.Proofs.Ytejcijlmpiiffaa
namespace Lm

/-- The word of the n numbers f 0, f 1, .. is less than that of the m numbers h 0, h 1, .. . -/
def Sl (f : Nat → Nat) (n : Nat) (h : Nat → Nat) (m : Nat) : Prop := ∃ d, d ≤ n ∧ d < m ∧ (∀ i, i < d → f i = h i) ∧ (d = n ∨ d < n ∧ f d < h d)
/-- The n numbers f 0, f 1, .. are a Lyndon word: less than each of its ends. -/
def LynF (f : Nat → Nat) (n : Nat) : Prop := 0 < n ∧ ∀ k, 0 < k → k < n → ∃ j, k + j < n ∧ (∀ i, i < j → f i = f (k + i)) ∧ f j < f (k + j)
theorem LynF.congr {f h : Nat → Nat} {n : Nat} (e : ∀ i, i < n → f i = h i) (p : LynF f n) : LynF h n := by
  refine ⟨p.1, fun k h0 hk => ?_⟩
  obtain ⟨j, hj, ha, hl⟩ := p.2 k h0 hk
  refine ⟨j, hj, fun i hi => ?_, ?_⟩
  · rw [← e i (by omega), ← e (k + i) (by omega)]; exact ha i hi
  · rw [← e j (by omega), ← e (k + j) hj]; exact hl
theorem lyn_one (f : Nat → Nat) : LynF f 1 := ⟨by omega, fun k h0 hk => by omega⟩

theorem mod_add (p m x : Nat) (h : x < p) : (m * p + x) % p = x := by rw [Nat.mul_comm, Nat.mul_add_mod, Nat.mod_eq_of_lt h]

/-- A front of a Lyndon word's repetition with a greater number behind it is a Lyndon word. -/
theorem lyn_step {f : Nat → Nat} {p : Nat} (h : LynF f p) (e c : Nat) (hc : f (e % p) < c) : LynF (fun i => if i < e then f (i % p) else c) (e + 1) := by
  refine ⟨by omega, fun k h0 hk => ?_⟩
  have hp := h.1
  by_cases hr : k % p = 0
  · refine ⟨e - k, by omega, fun i hi => ?_, ?_⟩
    · simp only []
      rw [if_pos (by omega), if_pos (by omega), Nat.add_mod, hr, Nat.zero_add, Nat.mod_mod]
    · simp only []
      rw [if_pos (by omega), if_neg (by omega)]
      have : (e - k) % p = e % p := by
        have h1 : e = k + (e - k) := by omega
        conv => rhs; rw [h1, Nat.add_mod, hr, Nat.zero_add, Nat.mod_mod]
      rw [this]; exact hc
  · have hlt := Nat.mod_lt k hp
    obtain ⟨j, hj, ha, hl⟩ := h.2 (k % p) (by omega) hlt
    have hm : ∀ x, k % p + x < p → (k + x) % p = k % p + x := by
      intro x hx
      have : k + x = k / p * p + (k % p + x) := by have := Nat.div_add_mod k p; rw [Nat.mul_comm] at this; omega
      rw [this, mod_add _ _ _ hx]
    by_cases hje : k + j < e
    · refine ⟨j, by omega, fun i hi => ?_, ?_⟩
      · simp only []
        rw [if_pos (by omega), if_pos (by omega), hm i (by omega), Nat.mod_eq_of_lt (by omega)]
        exact ha i hi
      · simp only []
        rw [if_pos (by omega), if_pos (by omega), hm j (by omega), Nat.mod_eq_of_lt (by omega)]
        exact hl
    · refine ⟨e - k, by omega, fun i hi => ?_, ?_⟩
      · simp only []
        rw [if_pos (by omega), if_pos (by omega), hm i (by omega), Nat.mod_eq_of_lt (by omega)]
        exact ha i (by omega)
      · simp only []
        rw [if_pos (by omega), if_neg (by omega)]
        have e1 := hm (e - k) (by omega)
        rw [show k + (e - k) = e by omega] at e1
        rw [e1] at hc
        rw [Nat.mod_eq_of_lt (by omega)]
        by_cases hq : e - k = j
        · rw [hq] at hc ⊢; omega
        · have := ha (e - k) (by omega); omega

/-- What the search for the front knows: the first p numbers are a Lyndon word, and the first e repeat it. -/
structure Dv (f : Nat → Nat) (n p e : Nat) : Prop where
  p0 : 0 < p
  pe : p ≤ e
  en : e ≤ n
  lyn : LynF f p
  per : ∀ i, i + p < e → f (i + p) = f i
theorem dv_start (f : Nat → Nat) {n : Nat} (h : 0 < n) : Dv f n 1 1 := ⟨by omega, by omega, h, lyn_one f, fun i hi => by omega⟩
theorem dv_same {f : Nat → Nat} {n p e : Nat} (h : Dv f n p e) (he : e < n) (hq : f (e - p) = f e) : Dv f n p (e + 1) := by
  refine ⟨h.p0, by have := h.pe; omega, he, h.lyn, fun i hi => ?_⟩
  by_cases hx : i + p < e
  · exact h.per i hx
  · rw [show i + p = e by omega, ← hq]; congr 1; omega
theorem Dv.mod {f : Nat → Nat} {n p e : Nat} (h : Dv f n p e) : ∀ i, i < e → f i = f (i % p) := by
  have : Wm.Per f e p := fun i hi => (h.per i hi).symm
  exact this.mod
theorem dv_more {f : Nat → Nat} {n p e : Nat} (h : Dv f n p e) (he : e < n) (hq : f (e - p) < f e) : Dv f n (e + 1) (e + 1) := by
  refine ⟨by omega, by omega, he, ?_, fun i hi => by omega⟩
  have hp := h.p0
  have hpe := h.pe
  have e1 : f (e % p) = f (e - p) := by
    rw [h.mod (e - p) (by omega)]
    congr 1
    exact Nat.mod_eq_sub_mod hpe
  refine (lyn_step h.lyn e (f e) (by omega)).congr fun i hi => ?_
  by_cases hx : i < e
  · rw [if_pos hx]; exact (h.mod i hx).symm
  · rw [if_neg hx, show i = e by omega]
/-- And where it ends. -/
structure Dn (f : Nat → Nat) (n p e : Nat) : Prop extends Dv f n p e where
  fin : e = n ∨ f e < f (e - p)
theorem Dn.longest {f : Nat → Nat} {n p e : Nat} (h : Dn f n p e) {q : Nat} (hp : p < q) (hq : q ≤ n) : ¬ LynF f q := by
  intro hl
  obtain ⟨j, hj, ha, hlt⟩ := hl.2 p h.p0 hp
  have hpe := h.pe
  by_cases hx : p + j < e
  · have := h.per j (by omega)
    rw [show j + p = p + j by omega] at this
    omega
  · rcases h.fin with hf | hf
    · omega
    · by_cases hy : e - p = j
      · rw [hy] at hf
        rw [show p + j = e by omega] at hlt
        omega
      · have := ha (e - p) (by omega)
        rw [show p + (e - p) = e by omega] at this
        omega
theorem Dn.whole {f : Nat → Nat} {n p e : Nat} (h : Dn f n p e) : p = n ↔ LynF f n := by
  constructor
  · rintro rfl; exact h.lyn
  · intro hl
    have h1 := h.pe
    have h2 := h.en
    by_cases hq : p = n
    · exact hq
    · exact absurd hl (h.longest (by omega) (Nat.le_refl _))
theorem Dn.rest {f : Nat → Nat} {n p e : Nat} (h : Dn f n p e) : e / p * p ≤ e ∧ e - e / p * p < p ∧ p ≤ e / p * p ∧ 0 < e / p ∧ (∀ x, x < e - e / p * p → f (e / p * p + x) = f x) ∧ (e < n → f e < f (e - e / p * p)) := by
  have hp := h.p0
  have hpe := h.pe
  have hdm := Nat.div_add_mod e p
  have hml := Nat.mod_lt e hp
  have hd0 : 0 < e / p := Nat.div_pos hpe hp
  rw [Nat.mul_comm] at hdm
  have h1 : 1 * p ≤ e / p * p := Nat.mul_le_mul_right p hd0
  refine ⟨by omega, by omega, by omega, hd0, fun x hx => ?_, fun hn => ?_⟩
  · rw [h.mod _ (by omega), mod_add _ _ _ (by omega)]
  · rcases h.fin with hf | hf
    · omega
    · rw [h.mod (e - p) (by omega), ← Nat.mod_eq_sub_mod hpe] at hf
      rw [show e - e / p * p = e % p by omega]
      exact hf
/-- No front of what stands behind the repetitions is greater than the word that is repeated. -/
theorem Dn.falls {f : Nat → Nat} {n p e : Nat} (h : Dn f n p e) {q : Nat} (hq : e / p * p + q ≤ n) : ¬ Sl f p (fun i => f (e / p * p + i)) q := by
  obtain ⟨h1, h2, h3, h4, h5, h6⟩ := h.rest
  generalize e / p * p = b at *
  rintro ⟨d, hd, hdq, ha, hl⟩
  simp only [] at ha hl
  by_cases hx : d < e - b
  · have := h5 d hx
    omega
  · have h7 := h6 (by omega)
    by_cases hy : d = e - b
    · rw [show b + d = e by omega] at hl
      rw [← hy] at h7
      omega
    · have := ha (e - b) (by omega)
      rw [show b + (e - b) = e by omega] at this
      omega

/-- The turn of the n numbers f 0, f 1, .. from the place i is less than that from j. -/
def Lt (f : Nat → Nat) (n i j : Nat) : Prop := ∃ d, d < n ∧ (∀ x, x < d → f ((i + x) % n) = f ((j + x) % n)) ∧ f ((i + d) % n) < f ((j + d) % n)
theorem Lt.irrefl {f : Nat → Nat} {n i : Nat} (h : Lt f n i i) : False := by obtain ⟨d, _, _, h⟩ := h; omega
theorem Lt.trans {f : Nat → Nat} {n i j k : Nat} (h : Lt f n i j) (g : Lt f n j k) : Lt f n i k := by
  obtain ⟨d, hd, ha, hl⟩ := h
  obtain ⟨c, hc, hb, hm⟩ := g
  by_cases hx : d < c
  · exact ⟨d, hd, fun x hx' => (ha x hx').trans (hb x (by omega)), by have := hb d hx; omega⟩
  · by_cases hy : d = c
    · subst hy
      exact ⟨d, hd, fun x hx' => (ha x hx').trans (hb x hx'), by omega⟩
    · exact ⟨c, hc, fun x hx' => (ha x (by omega)).trans (hb x hx'), by have := ha c (by omega); omega⟩
theorem Lt.asymm {f : Nat → Nat} {n i j : Nat} (h : Lt f n i j) (g : Lt f n j i) : False := (h.trans g).irrefl
theorem Lt.less {f : Nat → Nat} {n i j : Nat} (h : Lt f n (i + n) j) : Lt f n i j := by
  obtain ⟨d, hd, ha, hl⟩ := h
  have e : ∀ x, (i + n + x) % n = (i + x) % n := fun x => by rw [show i + n + x = i + x + n by omega, Nat.add_mod_right]
  refine ⟨d, hd, fun x hx => ?_, ?_⟩
  · rw [← e]; exact ha x hx
  · rw [← e]; exact hl
theorem lt_or_same {f : Nat → Nat} {n i j : Nat} (h1 : ¬ Lt f n i j) (h2 : ¬ Lt f n j i) : ∀ x, x < n → f ((i + x) % n) = f ((j + x) % n) := by
  intro x
  induction x using Nat.strongRecOn with
  | ind x ih =>
    intro hx
    rcases Nat.lt_trichotomy (f ((i + x) % n)) (f ((j + x) % n)) with h | h | h
    · exact absurd ⟨x, hx, fun y hy => ih y hy (by omega), h⟩ h1
    · exact h
    · exact absurd ⟨x, hx, fun y hy => (ih y hy (by omega)).symm, h⟩ h2

/-- A Lyndon word is less than each of its turns, and the other way round. -/
theorem lyn_turns {f : Nat → Nat} {n : Nat} (hn : 0 < n) : LynF f n ↔ ∀ k, 0 < k → k < n → Lt f n 0 k := by
  constructor
  · intro h k h0 hk
    obtain ⟨j, hj, ha, hl⟩ := h.2 k h0 hk
    refine ⟨j, by omega, fun x hx => ?_, ?_⟩
    · rw [Nat.zero_add, Nat.mod_eq_of_lt (by omega), Nat.mod_eq_of_lt (by omega)]; exact ha x hx
    · rw [Nat.zero_add, Nat.mod_eq_of_lt (by omega), Nat.mod_eq_of_lt (by omega)]; exact hl
  · intro h
    refine ⟨hn, fun k h0 hk => ?_⟩
    obtain ⟨d, hd, ha, hl⟩ := h k h0 hk
    simp only [Nat.zero_add] at ha hl
    rw [Nat.mod_eq_of_lt hd] at hl
    by_cases hx : k + d < n
    · rw [Nat.mod_eq_of_lt hx] at hl
      refine ⟨d, hx, fun i hi => ?_, hl⟩
      have := ha i hi
      rwa [Nat.mod_eq_of_lt (by omega), Nat.mod_eq_of_lt (by omega)] at this
    · exfalso
      obtain ⟨c, hc, hb, hm⟩ := h (n - k) (by omega) (by omega)
      simp only [Nat.zero_add] at hb hm
      rw [Nat.mod_eq_of_lt hc] at hm
      have e1 : ∀ x, n - k ≤ x → x < n → (k + x) % n = x - (n - k) := fun x h1 h2 => by
        rw [show k + x = (x - (n - k)) + n by omega, Nat.add_mod_right, Nat.mod_eq_of_lt (by omega)]
      rw [e1 d (by omega) hd] at hl
      have e2 : ∀ x, x < k → (n - k + x) % n = n - k + x := fun x h1 => Nat.mod_eq_of_lt (by omega)
      by_cases hq : c < d - (n - k)
      · have h3 := ha (n - k + c) (by omega)
        rw [Nat.mod_eq_of_lt (by omega), e1 _ (by omega) (by omega), show n - k + c - (n - k) = c by omega] at h3
        rw [e2 c (by omega)] at hm
        omega
      · by_cases hr : c = d - (n - k)
        · rw [e2 c (by omega), show n - k + c = d by omega, hr] at hm
          omega
        · have h3 := hb (d - (n - k)) (by omega)
          rw [Nat.mod_eq_of_lt (by omega), e2 _ (by omega), show n - k + (d - (n - k)) = d by omega] at h3
          omega
end Lm
end Go.Proofs.Ytejcijlmpiiffaa
