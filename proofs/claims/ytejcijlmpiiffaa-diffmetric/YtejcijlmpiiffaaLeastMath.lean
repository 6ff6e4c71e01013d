
/-
Plain mathematics on the least turn of a word, and on the Lyndon word that follows one, by places. No program is named here.
-/
import Derived.Test.YtejcijlmpiiffaaLynMath
namespace Go.Proofs.Ytejcijlmpiiffaa
namespace Lm

/-- What the search for the front of a word's turn (twice over) tells: see 'least_next', 'least_last'. -/
theorem least_in {f : Nat → Nat} {n i p e : Nat} (hi : i < n) (h : Dn (fun x => f ((i + x) % n)) (2 * n - i) p e) :
    p ≤ n ∧ (∀ j, i ≤ j → j < i + e / p * p → i + e < 2 * n → Lt f n (i + e / p * p) j) ∧
    (∀ j, i ≤ j → j < i + e / p * p → j < n → i + e = 2 * n → ¬ Lt f n j i) := by
  have hp0 := h.p0
  have hpn : p ≤ n := by
    by_cases hx : p ≤ n
    · exact hx
    · obtain ⟨j, hj, ha, hl⟩ := h.lyn.2 n (by omega) (by omega)
      simp only [] at hl
      rw [show i + (n + j) = i + j + n by omega, Nat.add_mod_right] at hl
      omega
  obtain ⟨h1, h2, h3, h4, h5, h6⟩ := h.rest
  have hen := h.en
  have hmod := h.mod
  have hb : ∀ k, k < e / p * p → ∀ x, k % p + x < p → k + x < e / p * p ∧ (k + x) % p = k % p + x := by
    intro k hk x hx
    have hk1 : k / p < e / p := Nat.div_lt_of_lt_mul (by rw [Nat.mul_comm]; exact hk)
    have hk2 : (k / p + 1) * p ≤ e / p * p := Nat.mul_le_mul_right p hk1
    rw [Nat.add_mul, Nat.one_mul] at hk2
    have hdm := Nat.div_add_mod k p
    rw [Nat.mul_comm] at hdm
    refine ⟨by omega, ?_⟩
    rw [show k + x = k / p * p + (k % p + x) by omega, mod_add _ _ _ hx]
  generalize e / p * p = b at *
  have hgt : ∀ j, i ≤ j → j < i + b → (j - i) % p ≠ 0 → ∃ x, x < p ∧ (∀ y, y ≤ x → (j - i) % p + y < p) ∧ (∀ y, y < x → f ((i + y) % n) = f ((j + y) % n)) ∧ f ((i + x) % n) < f ((j + x) % n) := by
    intro j hj1 hj2 hr
    have hlt := Nat.mod_lt (j - i) hp0
    obtain ⟨x, hx, ha, hl⟩ := h.lyn.2 ((j - i) % p) (by omega) hlt
    simp only [] at ha hl
    have hz : ∀ y, (j - i) % p + y < p → f ((j + y) % n) = f ((i + ((j - i) % p + y)) % n) := by
      intro y hy
      obtain ⟨g1, g2⟩ := hb (j - i) (by omega) y hy
      have := hmod (j - i + y) (by omega)
      rw [show i + (j - i + y) = j + y by omega, g2] at this
      exact this
    refine ⟨x, by omega, fun y hy => by omega, fun y hy => ?_, ?_⟩
    · rw [hz y (by omega)]; exact ha y hy
    · rw [hz x (by omega)]; exact hl
  refine ⟨hpn, fun j hj1 hj2 h2n => ?_, fun j hj1 hj2 hjn h2n => ?_⟩
  · have hf := h6 (by omega)
    by_cases hr : (j - i) % p = 0
    · have hz : ∀ y, y < p → f ((j + y) % n) = f ((i + y) % n) := by
        intro y hy
        obtain ⟨g1, g2⟩ := hb (j - i) (by omega) y (by omega)
        have := hmod (j - i + y) (by omega)
        rw [show i + (j - i + y) = j + y by omega, g2, hr, Nat.zero_add] at this
        exact this
      refine ⟨e - b, by omega, fun x hx => ?_, ?_⟩
      · rw [hz x (by omega), show i + b + x = i + (b + x) by omega]; exact h5 x hx
      · rw [hz _ h2, show i + b + (e - b) = i + e by omega]; exact hf
    · obtain ⟨x, hxp, hy, ha, hl⟩ := hgt j hj1 hj2 hr
      by_cases hq : x < e - b
      · refine ⟨x, by omega, fun y hy' => ?_, ?_⟩
        · rw [show i + b + y = i + (b + y) by omega, h5 y (by omega)]; exact ha y hy'
        · rw [show i + b + x = i + (b + x) by omega, h5 x hq]; exact hl
      · refine ⟨e - b, by omega, fun y hy' => ?_, ?_⟩
        · rw [show i + b + y = i + (b + y) by omega, h5 y hy']; exact ha y (by omega)
        · rw [show i + b + (e - b) = i + e by omega]
          by_cases hw : e - b = x
          · rw [hw] at hf ⊢; omega
          · have := ha (e - b) (by omega); omega
  · by_cases hr : (j - i) % p = 0
    · rintro ⟨d, hd, ha, hl⟩
      have h7 := hmod (j - i + d) (by omega)
      have h8 := hmod d (by omega)
      rw [show i + (j - i + d) = j + d by omega, Nat.add_mod (j - i) d, hr, Nat.zero_add, Nat.mod_mod] at h7
      omega
    · obtain ⟨x, hxp, hy, ha, hl⟩ := hgt j hj1 hj2 hr
      exact fun hc => Lt.asymm ⟨x, by omega, ha, hl⟩ hc
theorem least_step {f : Nat → Nat} {n i p e : Nat} (hi : i < n) (hbef : ∀ j, j < i → Lt f n i j) (h : Dn (fun x => f ((i + x) % n)) (2 * n - i) p e) :
    (i + e / p * p < n → ∀ j, j < i + e / p * p → Lt f n (i + e / p * p) j) ∧ (n ≤ i + e / p * p → ∀ j, j < n → ¬ Lt f n j i) := by
  obtain ⟨h1, h2, h3⟩ := least_in hi h
  obtain ⟨g1, g2, g3, g4, g5, g6⟩ := h.rest
  have hen := h.en
  have hp0 := h.p0
  generalize e / p * p = b at *
  constructor
  · intro hb j hj
    have h2n : i + e < 2 * n := by omega
    by_cases hji : j < i
    · exact (h2 i (by omega) (by omega) h2n).trans (hbef j hji)
    · exact h2 j (by omega) hj h2n
  · intro hb j hj
    by_cases h2n : i + e = 2 * n
    · by_cases hji : j < i
      · exact fun hc => (hbef j hji).asymm hc
      · exact h3 j (by omega) (by omega) hj h2n
    · exfalso
      by_cases hk : i + b - n < i
      · have := (h2 i (by omega) (by omega) (by omega)).trans (hbef (i + b - n) hk)
        rw [show i + b = (i + b - n) + n by omega] at this
        have := this.less
        rw [show i + b - n + n - n = i + b - n by omega] at this
        exact this.irrefl
      · have := h2 (i + b - n) (by omega) (by omega) (by omega)
        rw [show i + b = (i + b - n) + n by omega] at this
        have := this.less
        rw [show i + b - n + n - n = i + b - n by omega] at this
        exact this.irrefl

/-- The least turn is a Lyndon word where the word is no repetition. -/
theorem least_lyn {f h : Nat → Nat} {n i d : Nat} (hn : 0 < n) (hmin : ∀ j, j < n → ¬ Lt f n j i) (hh : ∀ x, x < n → h x = f ((i + x) % n)) (hd : Wm.Root f n d) : LynF h n ↔ d = n := by
  have hdn := hd.le hn
  have hd0 := hd.pos
  have hlt : ∀ k, Lt h n 0 k ↔ Lt f n i (i + k) := by
    intro k
    have e1 : ∀ x, h ((k + x) % n) = f ((i + k + x) % n) := fun x => by
      rw [hh _ (Nat.mod_lt _ hn)]
      congr 1
      rw [show i + k + x = i + (k + x) by omega, Nat.add_mod i (k + x)]
      rw [Nat.add_mod i ((k + x) % n), Nat.mod_mod]
    have e0 : ∀ x, h ((0 + x) % n) = f ((i + x) % n) := fun x => by
      rw [hh _ (Nat.mod_lt _ hn)]
      congr 1
      rw [Nat.zero_add, Nat.add_mod i x, Nat.add_mod i (x % n), Nat.mod_mod]
    constructor
    · rintro ⟨c, hc, ha, hl⟩
      refine ⟨c, hc, fun x hx => ?_, ?_⟩
      · rw [← e0, ← e1]; exact ha x hx
      · rw [← e0, ← e1]; exact hl
    · rintro ⟨c, hc, ha, hl⟩
      refine ⟨c, hc, fun x hx => ?_, ?_⟩
      · rw [e0, e1]; exact ha x hx
      · rw [e0, e1]; exact hl
  rw [lyn_turns hn]
  constructor
  · intro hl
    by_cases hx : d = n
    · exact hx
    · exfalso
      obtain ⟨c, hc, _, hm⟩ := (hlt d).1 (hl d hd0 (by omega))
      have hm1 := hd.1.2.2.mod ((i + c) % n) (Nat.mod_lt _ hn)
      have hm2 := hd.1.2.2.mod ((i + d + c) % n) (Nat.mod_lt _ hn)
      rw [Nat.mod_mod_of_dvd _ hd.1.2.1] at hm1 hm2
      rw [show i + d + c = i + c + d by omega, Nat.add_mod_right] at hm2
      rw [show i + d + c = i + c + d by omega] at hm
      omega
  · rintro rfl k h0 hk
    rw [hlt]
    by_cases hx : Lt f d i (i + k)
    · exact hx
    · exfalso
      have hy : ¬ Lt f d (i + k) i := by
        intro hc
        by_cases hq : i + k < d
        · exact hmin _ hq hc
        · refine hmin ((i + k) % d) (Nat.mod_lt _ hn) ?_
          obtain ⟨c, hc1, ha, hl⟩ := hc
          refine ⟨c, hc1, fun x hx => ?_, ?_⟩
          · rw [Nat.add_mod, Nat.mod_mod, ← Nat.add_mod]; exact ha x hx
          · rw [Nat.add_mod, Nat.mod_mod, ← Nat.add_mod]; exact hl
      have hs := lt_or_same hx hy
      let T : Nat → Nat := fun x => f (x % d)
      have hT : ∀ x, T (x + d) = T x := fun x => by show f ((x + d) % d) = f (x % d); rw [Nat.add_mod_right]
      have hk2 : ∀ x, T (x + k) = T x := by
        intro x
        -- x ≡ i + y with y = (x + (d - i % d)) % d
        have hid := Nat.mod_lt i hn
        have e1 : (i + (x + (d - i % d)) % d) % d = x % d := by
          rw [Nat.add_mod, Nat.mod_mod, ← Nat.add_mod]
          have : i + (x + (d - i % d)) = x + (i / d + 1) * d := by
            have := Nat.div_add_mod i d
            rw [Nat.add_mul, Nat.one_mul, Nat.mul_comm]
            omega
          rw [this, Nat.add_mul_mod_self_right]
        have h3 := hs ((x + (d - i % d)) % d) (Nat.mod_lt _ hn)
        rw [e1] at h3
        show f ((x + k) % d) = f (x % d)
        rw [h3]
        congr 1
        rw [show i + k + (x + (d - i % d)) % d = (i + (x + (d - i % d)) % d) + k by omega, Nat.add_mod, Nat.add_mod (i + _) k, e1]
      have p1 : Wm.Per T (3 * d) k := fun x _ => (hk2 x).symm
      have p2 : Wm.Per T (3 * d) d := fun x _ => (hT x).symm
      have hg := Wm.fine (k + d) k d (3 * d) (Nat.le_refl _) h0 hn p1 p2 (by omega)
      have hgk : Nat.gcd k d ≤ k := Nat.le_of_dvd h0 (Nat.gcd_dvd_left _ _)
      have hg0 : 0 < Nat.gcd k d := Nat.gcd_pos_of_pos_left _ h0
      have : Wm.Rt f d (Nat.gcd k d) := by
        refine ⟨hg0, Nat.gcd_dvd_right _ _, fun x hx => ?_⟩
        have := hg x (by omega)
        show f x = f (x + _)
        have e1 : T x = f x := by show f (x % d) = f x; rw [Nat.mod_eq_of_lt (by omega)]
        have e2 : T (x + Nat.gcd k d) = f (x + Nat.gcd k d) := by show f (_ % d) = f _; rw [Nat.mod_eq_of_lt (by omega)]
        rw [← e1, ← e2]; exact this
      have := hd.2 _ this
      omega

/-- Where the m-th number is the last of the first n that is less than 'last' in the repetition of a Lyndon word: the front with one more there is the Lyndon word that follows. -/
theorem next_great {f h : Nat → Nat} {p m : Nat} (hp : LynF f p) (hm : 0 < m) (hh : ∀ i, i < m - 1 → h i = f (i % p)) (hl : h (m - 1) = f ((m - 1) % p) + 1) : LynF h m ∧ Sl f p h m := by
  have hp0 := hp.1
  constructor
  · have := lyn_step hp (m - 1) (h (m - 1)) (by omega)
    rw [show m - 1 + 1 = m by omega] at this
    refine this.congr fun i hi => ?_
    by_cases hx : i < m - 1
    · rw [if_pos hx, hh i hx]
    · rw [if_neg hx, show i = m - 1 by omega]
  · by_cases hx : m - 1 < p
    · refine ⟨m - 1, by omega, by omega, fun i hi => ?_, .inr ⟨hx, ?_⟩⟩
      · rw [hh i hi, Nat.mod_eq_of_lt (by omega)]
      · rw [hl, Nat.mod_eq_of_lt hx]; omega
    · exact ⟨p, Nat.le_refl _, by omega, fun i hi => by rw [hh i (by omega), Nat.mod_eq_of_lt hi], .inl rfl⟩
theorem after_differs {f g : Nat → Nat} {p q : Nat} (hq : LynF g q) (hp : 0 < p) (hs : Sl f p g q) : ∃ d, d < q ∧ (∀ i, i < d → g i = f (i % p)) ∧ f (d % p) < g d := by
  obtain ⟨d, hd, hdq, ha, hl⟩ := hs
  rcases hl with rfl | ⟨hd2, hl⟩
  · -- f is a front of g: look for the first place where g leaves the repetition
    have key : ∀ k, k ≤ q → (∀ i, i < k → g i = f (i % d)) ∨ ∃ c, c < k ∧ (∀ i, i < c → g i = f (i % d)) ∧ g c ≠ f (c % d) := by
      intro k
      induction k with
      | zero => exact fun _ => .inl fun i hi => by omega
      | succ k ih =>
        intro hk
        rcases ih (by omega) with h | ⟨c, hc, h1, h2⟩
        · by_cases hx : g k = f (k % d)
          · refine .inl fun i hi => ?_
            by_cases hy : i < k
            · exact h i hy
            · rw [show i = k by omega, hx]
          · exact .inr ⟨k, by omega, h, hx⟩
        · exact .inr ⟨c, by omega, h1, h2⟩
    rcases key q (Nat.le_refl _) with h | ⟨c, hc, h1, h2⟩
    · exfalso
      obtain ⟨j, hj, _, hlt⟩ := hq.2 d hp hdq
      rw [h j (by omega), h (d + j) hj, Nat.add_mod_left] at hlt
      omega
    · refine ⟨c, hc, h1, ?_⟩
      by_cases hlt : f (c % d) < g c
      · exact hlt
      · exfalso
        have hcd : d ≤ c := by
          by_cases hx : d ≤ c
          · exact hx
          · have := ha c (by omega)
            rw [Nat.mod_eq_of_lt (by omega)] at h2
            omega
        obtain ⟨j, hj, hb, hlt2⟩ := hq.2 d hp hdq
        by_cases hx : d + j < c
        · rw [h1 j (by omega), h1 (d + j) hx, Nat.add_mod_left] at hlt2
          omega
        · have e1 : g (c - d) = f (c % d) := by rw [h1 _ (by omega), Nat.mod_eq_sub_mod hcd]
          by_cases hy : j = c - d
          · rw [hy, show d + (c - d) = c by omega] at hlt2
            omega
          · have := hb (c - d) (by omega)
            rw [show d + (c - d) = c by omega] at this
            omega
  · refine ⟨d, hdq, fun i hi => ?_, ?_⟩
    · rw [Nat.mod_eq_of_lt (by omega)]; exact (ha i hi).symm
    · rw [Nat.mod_eq_of_lt hd2]; exact hl
theorem next_least {f h g : Nat → Nat} {p m q last n : Nat} (hp : 0 < p) (hm : 0 < m) (hh : ∀ i, i < m - 1 → h i = f (i % p)) (hl : h (m - 1) = f ((m - 1) % p) + 1)
    (htop : ∀ i, m ≤ i → i < n → f (i % p) = last) (hq : LynF g q) (hqn : q ≤ n) (hlast : ∀ i, i < q → g i ≤ last) (hs : Sl f p g q) : ¬ Sl g q h m := by
  obtain ⟨d, hd, ha, hlt⟩ := after_differs hq hp hs
  have hdm : d ≤ m - 1 := by
    by_cases hx : d ≤ m - 1
    · exact hx
    · have h1 := htop d (by omega) (by omega)
      have h2 := hlast d hd
      omega
  rintro ⟨c, hc, hcm, hb, hr⟩
  by_cases hx : c < d
  · rcases hr with rfl | ⟨_, hr⟩
    · omega
    · rw [ha c hx, hh c (by omega)] at hr; omega
  · by_cases hy : c = d
    · subst hy
      rcases hr with rfl | ⟨_, hr⟩
      · omega
      · by_cases hz : c < m - 1
        · rw [hh c hz] at hr; omega
        · rw [show m - 1 = c by omega] at hl; omega
    · have := hb d (by omega)
      rw [hh d (by omega)] at this
      omega
theorem next_none {f g : Nat → Nat} {p q last n : Nat} (hp : 0 < p) (htop : ∀ i, i < n → f (i % p) = last) (hq : LynF g q) (hqn : q ≤ n) (hlast : ∀ i, i < q → g i ≤ last) : ¬ Sl f p g q := by
  intro hs
  obtain ⟨d, hd, ha, hlt⟩ := after_differs hq hp hs
  have h1 := htop d (by omega)
  have h2 := hlast d hd
  omega
end Lm
end Go.Proofs.Ytejcijlmpiiffaa
