
/-
Plain mathematics of the Burrows-Wheeler transform: the turns of a word in their order, their last bytes, the way back, searching from behind. No program is named here.
-/
import Derived.Test.YtapjodbaaejldaaUnMath
namespace Go.Proofs.Ytapjodbaaejldaa
namespace Tm
open Lm Sm

/-- For how many numbers below n does P hold? -/
def cnt (P : Nat → Bool) : Nat → Nat
  | 0 => 0
  | n + 1 => cnt P n + (P n).toNat
theorem cnt_mono {P Q : Nat → Bool} : ∀ {n}, (∀ j, j < n → P j = true → Q j = true) → cnt P n ≤ cnt Q n
  | 0, _ => Nat.le_refl _
  | n + 1, h => by
    have h1 := cnt_mono (n := n) fun j hj => h j (by omega)
    have h2 := h n (by omega)
    unfold cnt
    cases hp : P n
    · simp; omega
    · rw [h2 hp]; simp; omega
theorem cnt_congr {P Q : Nat → Bool} {n : Nat} (h : ∀ j, j < n → P j = Q j) : cnt P n = cnt Q n :=
  Nat.le_antisymm (cnt_mono fun j hj e => by rw [← h j hj]; exact e) (cnt_mono fun j hj e => by rw [h j hj]; exact e)
theorem cnt_or {P Q S : Nat → Bool} : ∀ {n}, (∀ j, j < n → ¬ (P j = true ∧ Q j = true)) → (∀ j, j < n → S j = (P j || Q j)) → cnt S n = cnt P n + cnt Q n
  | 0, _, _ => rfl
  | n + 1, h, hs => by
    have h1 := cnt_or (n := n) (fun j hj => h j (by omega)) (fun j hj => hs j (by omega))
    have h2 := h n (by omega)
    unfold cnt
    rw [hs n (by omega)]
    cases hp : P n <;> cases hq : Q n <;> simp_all <;> omega
theorem cnt_below (k : Nat) : ∀ n, cnt (fun j => decide (j < k)) n = min k n
  | 0 => by simp [cnt]
  | n + 1 => by
    unfold cnt
    rw [cnt_below k n]
    by_cases h : n < k
    · simp [h]; omega
    · simp [h]; omega
theorem cnt_le (P : Nat → Bool) (n : Nat) : cnt P n ≤ n := by
  have := cnt_mono (n := n) (P := P) (Q := fun j => decide (j < n)) fun j hj _ => by simp [hj]
  rw [cnt_below] at this
  omega
/-- Counting along a part only. -/
theorem cnt_part (P : Nat → Bool) {m n : Nat} (h : m ≤ n) : cnt (fun j => P j && decide (j < m)) n = cnt P m := by
  induction n with
  | zero => obtain rfl : m = 0 := by omega
            rfl
  | succ n ih =>
    by_cases hm : m = n + 1
    · subst hm
      exact cnt_congr fun j hj => by simp [hj]
    · show cnt (fun j => P j && decide (j < m)) n + (P n && decide (n < m)).toNat = cnt P m
      rw [ih (by omega), show decide (n < m) = false from decide_eq_false (by omega), Bool.and_false]
      rfl
theorem cnt_countP (P : Nat → Bool) : ∀ n, cnt P n = (List.range n).countP P
  | 0 => rfl
  | n + 1 => by
    unfold cnt
    rw [List.range_succ, List.countP_append, cnt_countP P n]
    cases hp : P n <;> simp [hp]
/-- σ exchanges the numbers below n. -/
structure Bij (n : Nat) (σ : Nat → Nat) : Prop where
  lt : ∀ k, k < n → σ k < n
  inj : ∀ i j, i < n → j < n → σ i = σ j → i = j
theorem Bij.onto {n : Nat} {σ : Nat → Nat} (h : Bij n σ) {i : Nat} (hi : i < n) : ∃ k, k < n ∧ σ k = i := by
  by_cases hc : i ∈ (List.range n).map σ
  · obtain ⟨k, hk, e⟩ := List.mem_map.1 hc
    exact ⟨k, List.mem_range.1 hk, e⟩
  · have hn : ((List.range n).map σ).Nodup := nodup_map List.nodup_range fun a b ha hb e => h.inj a b (List.mem_range.1 ha) (List.mem_range.1 hb) e
    have := nodup_le (A := i :: (List.range n).map σ) (B := List.range n) (List.nodup_cons.2 ⟨hc, hn⟩) (fun x hx => by
      rcases List.mem_cons.1 hx with rfl | hx
      · exact List.mem_range.2 hi
      · obtain ⟨k, hk, rfl⟩ := List.mem_map.1 hx
        exact List.mem_range.2 (h.lt k (List.mem_range.1 hk)))
    simp at this
    omega
theorem Bij.perm {n : Nat} {σ : Nat → Nat} (h : Bij n σ) : ((List.range n).map σ).Perm (List.range n) := by
  rw [List.perm_iff_count]
  intro a
  have hn : ((List.range n).map σ).Nodup := nodup_map List.nodup_range fun a b ha hb e => h.inj a b (List.mem_range.1 ha) (List.mem_range.1 hb) e
  by_cases ha : a < n
  · obtain ⟨k, hk, e⟩ := h.onto ha
    have h1 := List.nodup_iff_count.1 hn a
    have h2 := List.nodup_iff_count.1 (List.nodup_range (n := n)) a
    have h3 := List.count_pos_iff.2 (List.mem_map.2 ⟨k, List.mem_range.2 hk, e⟩ : a ∈ (List.range n).map σ)
    have h4 := List.count_pos_iff.2 (List.mem_range.2 ha)
    omega
  · rw [List.count_eq_zero.2, List.count_eq_zero.2]
    · simp [ha]
    · intro hc
      obtain ⟨k, hk, rfl⟩ := List.mem_map.1 hc
      exact ha (h.lt k (List.mem_range.1 hk))
theorem Bij.cnt {n : Nat} {σ : Nat → Nat} (h : Bij n σ) (P : Nat → Bool) : cnt (fun j => P (σ j)) n = cnt P n := by
  have h1 := h.perm.countP_eq P
  rw [List.countP_map] at h1
  rw [cnt_countP, cnt_countP]
  exact h1

/-- In a row that does not fall what stands at k is told by counting. -/
theorem rank_is {n k : Nat} {T : Nat → List UInt8} {y : List UInt8} (hs : ∀ i j, i < j → j < n → ¬ T j < T i) (hk : k < n) (h1 : cnt (fun j => decide (T j < y)) n ≤ k) (h2 : k < cnt (fun j => decide (¬ y < T j)) n) : T k = y := by
  refine tri (fun hc => ?_) (fun hc => ?_)
  · have : cnt (fun j => decide (j < k + 1)) n ≤ cnt (fun j => decide (T j < y)) n := cnt_mono fun j hj e => by
      have e := of_decide_eq_true e
      refine decide_eq_true ?_
      by_cases hjk : j = k
      · rw [hjk]; exact hc
      · exact le_lt (hs j k (by omega) hk) hc
    rw [cnt_below] at this
    omega
  · have : cnt (fun j => decide (¬ y < T j)) n ≤ cnt (fun j => decide (j < k)) n := cnt_mono fun j hj e => by
      have e := of_decide_eq_true e
      refine decide_eq_true ?_
      by_cases hjk : j < k
      · exact hjk
      · exfalso
        by_cases hj2 : j = k
        · rw [hj2] at e; exact e hc
        · exact e (lt_le hc (hs k j (by omega) hj))
    rw [cnt_below] at this
    omega
theorem rank_self {n k : Nat} {T : Nat → List UInt8} (hs : ∀ i j, i < j → j < n → ¬ T j < T i) (hk : k < n) : cnt (fun j => decide (T j < T k)) n ≤ k ∧ k < cnt (fun j => decide (¬ T k < T j)) n := by
  constructor
  · have : cnt (fun j => decide (T j < T k)) n ≤ cnt (fun j => decide (j < k)) n := cnt_mono fun j hj e => by
      have e := of_decide_eq_true e
      refine decide_eq_true ?_
      by_cases hjk : j < k
      · exact hjk
      · exfalso
        by_cases hj2 : j = k
        · rw [hj2] at e; exact irr _ e
        · exact hs k j (by omega) hj e
    rw [cnt_below] at this
    omega
  · have : cnt (fun j => decide (j < k + 1)) n ≤ cnt (fun j => decide (¬ T k < T j)) n := cnt_mono fun j hj e => by
      have e := of_decide_eq_true e
      refine decide_eq_true ?_
      by_cases hjk : j = k
      · rw [hjk]; exact irr _
      · exact hs j k (by omega) hk
    rw [cnt_below] at this
    omega
/-- Two rows that do not fall, of the same words: the same. -/
theorem same_rows {n : Nat} {T U : Nat → List UInt8} (hs : ∀ i j, i < j → j < n → ¬ T j < T i) (hu : ∀ i j, i < j → j < n → ¬ U j < U i)
    (hc : ∀ P : List UInt8 → Bool, cnt (fun j => P (T j)) n = cnt (fun j => P (U j)) n) {k : Nat} (hk : k < n) : T k = U k := by
  obtain ⟨h1, h2⟩ := rank_self hu hk
  refine rank_is hs hk ?_ ?_
  · rw [hc fun z => decide (z < U k)]; exact h1
  · rw [hc fun z => decide (¬ U k < z)]; exact h2

/-- Byte d of the ring of x, from place i on. -/
def W (x : List UInt8) (i d : Nat) : UInt8 := x.getD ((i + d) % x.length) 0
/-- The m bytes of the ring from place i on. -/
def cy (x : List UInt8) (i m : Nat) : List UInt8 := (List.range m).map fun d => W x i d
theorem cy_len (x : List UInt8) (i m : Nat) : (cy x i m).length = m := by unfold cy; simp
theorem cy_get (x : List UInt8) (i : Nat) {m d : Nat} (h : d < m) : (cy x i m).getD d 0 = W x i d := by
  unfold cy; rw [List.getD_eq_getElem?_getD, List.getElem?_map, List.getElem?_range h]; rfl
theorem W_mod (x : List UInt8) (i d : Nat) : W x (i % x.length) d = W x i d := by unfold W; rw [Nat.mod_add_mod]
theorem W_per (x : List UInt8) (i d : Nat) : W x i (d % x.length) = W x i d := by unfold W; rw [Nat.add_mod_mod]
theorem W_shift (x : List UInt8) (i e d : Nat) : W x (i + e) d = W x i (e + d) := by unfold W; rw [Nat.add_assoc]
theorem cy_succ (x : List UInt8) (i m : Nat) : cy x i (m + 1) = W x i 0 :: cy x (i + 1) m := by
  unfold cy
  rw [List.range_succ_eq_map, List.map_cons, List.map_map]
  refine congrArg _ (List.map_congr_left fun d _ => ?_)
  show W x i (d + 1) = W x (i + 1) d
  rw [W_shift, Nat.add_comm 1 d]
theorem cy_end (x : List UInt8) (i m : Nat) : cy x i (m + 1) = cy x i m ++ [W x i m] := by unfold cy; rw [List.range_succ, List.map_append]; rfl
/-- The place before. -/
def pv (n i : Nat) : Nat := (i + (n - 1)) % n
theorem pv_bij (n : Nat) : Bij n (pv n) := by
  refine ⟨fun k hk => Nat.mod_lt _ (by omega), fun i j hi hj h => ?_⟩
  have e : ∀ i, i < n → pv n i = if i = 0 then n - 1 else i - 1 := fun i hi => by
    unfold pv
    by_cases h0 : i = 0
    · rw [if_pos h0, h0, Nat.zero_add, Nat.mod_eq_of_lt (by omega)]
    · rw [if_neg h0, show i + (n - 1) = (i - 1) + n by omega, Nat.add_mod_right, Nat.mod_eq_of_lt (by omega)]
  rw [e i hi, e j hj] at h
  by_cases h1 : i = 0
  · by_cases h2 : j = 0
    · omega
    · rw [if_pos h1, if_neg h2] at h; omega
  · by_cases h2 : j = 0
    · rw [if_neg h1, if_pos h2] at h; omega
    · rw [if_neg h1, if_neg h2] at h; omega
theorem cy_prev {x : List UInt8} (hx : 0 < x.length) (i m : Nat) : cy x (pv x.length i) (m + 1) = W x i (x.length - 1) :: cy x i m := by
  rw [cy_succ]
  have h1 : W x (pv x.length i) 0 = W x i (x.length - 1) := by unfold pv; rw [W_mod, W_shift, Nat.add_zero]
  have h2 : cy x (pv x.length i + 1) m = cy x i m := by
    unfold cy
    refine List.map_congr_left fun d _ => ?_
    rw [W_shift]
    unfold pv
    rw [W_mod, W_shift, ← W_per, show x.length - 1 + (1 + d) = d + x.length by omega, Nat.add_mod_right, W_per]
  rw [h1, h2]
theorem cy_prev_last {x : List UInt8} (hx : 0 < x.length) (i : Nat) : cy x (pv x.length i) x.length = W x i (x.length - 1) :: cy x i (x.length - 1) := by
  have := cy_prev hx i (x.length - 1)
  rw [show x.length - 1 + 1 = x.length by omega] at this
  exact this
theorem lt_cy (x : List UInt8) (i j m : Nat) : cy x i m < cy x j m ↔ ∃ d, d < m ∧ (∀ e, e < d → W x i e = W x j e) ∧ W x i d < W x j d := by
  rw [lt_iff, cy_len, cy_len]
  have hb : ∀ i d, d < m → bn (cy x i m) d = (W x i d).toNat := fun i d h => by unfold bn; rw [cy_get x i h]
  constructor
  · rintro ⟨d, h1, h2, h3, h4⟩
    refine ⟨d, h2, fun e he => ?_, ?_⟩
    · have := h3 e he
      rw [hb i e (by omega), hb j e (by omega)] at this
      exact UInt8.toNat_inj.1 this
    · rcases h4 with h4 | ⟨_, h4⟩
      · omega
      · rw [hb i d h2, hb j d h2] at h4
        exact UInt8.lt_iff_toNat_lt.2 h4
  · rintro ⟨d, h1, h2, h3⟩
    refine ⟨d, by omega, h1, fun e he => ?_, .inr ⟨h1, ?_⟩⟩
    · rw [hb i e (by omega), hb j e (by omega), h2 e he]
    · rw [hb i d h1, hb j d h1]
      exact UInt8.lt_iff_toNat_lt.1 h3
/-- Turns are told apart by their own bytes. -/
theorem lt_cy_n {x : List UInt8} (hx : 0 < x.length) {i j m : Nat} (h : cy x i m < cy x j m) : cy x i x.length < cy x j x.length := by
  rw [lt_cy] at *
  obtain ⟨d, h1, h2, h3⟩ := h
  by_cases hd : d < x.length
  · exact ⟨d, hd, h2, h3⟩
  · exfalso
    have hm := Nat.mod_lt d hx
    have := h2 (d % x.length) (by omega)
    rw [W_per, W_per] at this
    rw [this] at h3
    rw [UInt8.lt_iff_toNat_lt] at h3
    omega
/-- The order of the turns: by their bytes, equal ones by place. -/
def R (x : List UInt8) (i j : Nat) : Prop := cy x i x.length < cy x j x.length ∨ (cy x i x.length = cy x j x.length ∧ i < j)
theorem R.tr {x : List UInt8} {i j k : Nat} (h : R x i j) (g : R x j k) : R x i k := by
  rcases h with h | ⟨h, h'⟩
  · rcases g with g | ⟨g, g'⟩
    · exact .inl (lt_tr h g)
    · exact .inl (g ▸ h)
  · rcases g with g | ⟨g, g'⟩
    · exact .inl (h ▸ g)
    · exact .inr ⟨h.trans g, by omega⟩
theorem R.as_ {x : List UInt8} {i j : Nat} (h : R x i j) : ¬ R x j i := fun g => by
  rcases h.tr g with h | ⟨_, h⟩
  · exact irr _ h
  · omega
theorem R.le {x : List UInt8} {i j : Nat} (h : R x i j) : ¬ cy x j x.length < cy x i x.length := by
  rcases h with h | ⟨h, _⟩
  · exact Sm.as_ h
  · rw [h]; exact irr _
/-- σ tells the turns in their order. -/
structure Bw (x : List UInt8) (σ : Nat → Nat) : Prop where
  bij : Bij x.length σ
  up : ∀ i j, i < j → j < x.length → R x (σ i) (σ j)
theorem Bw.unique {x : List UInt8} {σ τ : Nat → Nat} (h : Bw x σ) (g : Bw x τ) : ∀ k, k < x.length → σ k = τ k := by
  have hp : ∀ {σ}, Bw x σ → ((List.range x.length).map σ).Pairwise (R x) := fun h => by
    rw [List.pairwise_map, List.pairwise_iff_getElem]
    intro i j hi hj hij
    simp at hi hj ⊢
    exact h.up i j hij hj
  have := sorted_same (R := R x) (fun a b h => h.as_) (fun a h => h.as_ h) (hp h) (hp g) (fun z => by rw [h.bij.perm.mem_iff, g.bij.perm.mem_iff])
  intro k hk
  have h1 := congrArg (fun l => l.getD k 0) this
  simpa [List.getD_eq_getElem?_getD, hk] using h1
theorem Bw.rise {x : List UInt8} {σ : Nat → Nat} (h : Bw x σ) (m : Nat) : ∀ i j, i < j → j < x.length → ¬ cy x (σ j) m < cy x (σ i) m :=
  fun i j hij hj hc => (h.up i j hij hj).le (lt_cy_n (by omega) hc)
/-- t and a are what the transform of x tells. -/
structure IsPut (x t : List UInt8) (a : Nat) : Prop where
  len : t.length = x.length
  all : ∃ σ, Bw x σ ∧ (∀ k, k < x.length → t.getD k 0 = W x (σ k) (x.length - 1)) ∧ (0 < x.length → a < x.length ∧ σ a = 0)
  zero : x.length = 0 → a = 0
theorem IsPut.unique {x t u : List UInt8} {a b : Nat} (h : IsPut x t a) (g : IsPut x u b) : t = u ∧ a = b := by
  obtain ⟨σ, h1, h2, h3⟩ := h.all
  obtain ⟨τ, g1, g2, g3⟩ := g.all
  have hu := h1.unique g1
  refine ⟨List.ext_getElem (by rw [h.len, g.len]) fun i i1 i2 => ?_, ?_⟩
  · have hi : i < x.length := by rw [← h.len]; exact i1
    have e1 := h2 i hi
    have e2 := g2 i hi
    rw [List.getD_eq_getElem?_getD, List.getElem?_eq_getElem i1, Option.getD_some] at e1
    rw [List.getD_eq_getElem?_getD, List.getElem?_eq_getElem i2, Option.getD_some] at e2
    rw [e1, e2, hu i hi]
  · by_cases h0 : x.length = 0
    · rw [h.zero h0, g.zero h0]
    · obtain ⟨ha, ha'⟩ := h3 (by omega)
      obtain ⟨hb, hb'⟩ := g3 (by omega)
      refine h1.bij.inj a b ha hb ?_
      rw [ha', hu b hb, hb']
theorem cy_zero_is {x : List UInt8} : cy x 0 x.length = x := by
  refine List.ext_getElem (by rw [cy_len]) fun i i1 i2 => ?_
  have := cy_get x 0 (m := x.length) i2
  rw [List.getD_eq_getElem?_getD, List.getElem?_eq_getElem i1, Option.getD_some] at this
  rw [this]
  unfold W
  rw [Nat.zero_add, Nat.mod_eq_of_lt i2, List.getD_eq_getElem?_getD, List.getElem?_eq_getElem i2, Option.getD_some]

/-- How many bytes of t are less than b, and how many of the first m are b. -/
def sp (t : List UInt8) (b m : Nat) : Nat := cnt (fun i => decide (bn t i < b)) t.length + cnt (fun i => decide (bn t i = b)) m
theorem sp_as (t : List UInt8) (b m : Nat) (h : m ≤ t.length) : sp t b m = cnt (fun i => decide (bn t i < b ∨ (bn t i = b ∧ i < m))) t.length := by
  unfold sp
  rw [← cnt_part _ h]
  refine (cnt_or (fun j _ hc => ?_) (fun j _ => ?_)).symm
  · simp at hc
    omega
  · simp [Bool.decide_or, Bool.decide_and]
theorem sp_mono (t : List UInt8) (b : Nat) {m k : Nat} (h : m ≤ k) (hk : k ≤ t.length) : sp t b m ≤ sp t b k := by
  rw [sp_as t b m (by omega), sp_as t b k hk]
  exact cnt_mono fun j _ e => by
    have e := of_decide_eq_true e
    exact decide_eq_true (by omega)
theorem sp_le (t : List UInt8) (b m : Nat) (h : m ≤ t.length) : sp t b m ≤ t.length := by rw [sp_as t b m h]; exact cnt_le _ _
theorem sp_lt (t : List UInt8) {k : Nat} (h : k < t.length) : sp t (bn t k) k < t.length := by
  rw [sp_as t _ k (by omega)]
  have h1 : cnt (fun i => decide (bn t i < bn t k ∨ (bn t i = bn t k ∧ i < k))) t.length + cnt (fun i => decide (i = k)) t.length ≤ t.length := by
    rw [← cnt_or (S := fun i => decide (bn t i < bn t k ∨ (bn t i = bn t k ∧ i < k)) || decide (i = k)) (fun j _ hc => ?_) (fun j _ => rfl)]
    · exact cnt_le _ _
    · simp at hc
      obtain ⟨h1, rfl⟩ := hc
      omega
  have h2 : cnt (fun i => decide (i < k)) (k + 1) + 1 = k + 1 := by rw [cnt_below]; omega
  have h3 : ∀ n, k < n → 1 ≤ cnt (fun i => decide (i = k)) n := by
    intro n hn
    induction n with
    | zero => omega
    | succ n ih =>
      unfold cnt
      by_cases hk : k = n
      · simp [hk]
      · have := ih (by omega)
        omega
  have := h3 _ h
  omega

/-- A step of the way back leads to the turn from the place before. -/
theorem back_step {x t : List UInt8} {σ : Nat → Nat} (h : Bw x σ) (hl : t.length = x.length) (ht : ∀ k, k < x.length → t.getD k 0 = W x (σ k) (x.length - 1)) {k : Nat} (hk : k < x.length) :
    cy x (σ (sp t (bn t k) k)) x.length = cy x (pv x.length (σ k)) x.length := by
  have hx : 0 < x.length := by omega
  have hb : ∀ j, j < x.length → bn t j = (W x (σ j) (x.length - 1)).toNat := fun j hj => by unfold bn; rw [ht j hj]
  have hsp : sp t (bn t k) k < x.length := by rw [← hl]; exact sp_lt t (by omega)
  have hcnt : ∀ P : List UInt8 → Bool, cnt (fun j => P (cy x (σ j) x.length)) x.length = cnt (fun j => P (cy x (pv x.length (σ j)) x.length)) x.length := fun P => by
    rw [h.bij.cnt (fun i => P (cy x i x.length)), h.bij.cnt (fun i => P (cy x (pv x.length i) x.length)), (pv_bij x.length).cnt (fun i => P (cy x i x.length))]
  have hcons : ∀ j, cy x (pv x.length (σ j)) x.length = W x (σ j) (x.length - 1) :: cy x (σ j) (x.length - 1) := fun j => cy_prev_last hx _
  refine rank_is (T := fun j => cy x (σ j) x.length) (h.rise x.length) hsp ?_ ?_
  · show cnt (fun j => decide (cy x (σ j) x.length < cy x (pv x.length (σ k)) x.length)) x.length ≤ _
    rw [hcnt fun z => decide (z < cy x (pv x.length (σ k)) x.length), sp_as t _ k (by omega), hl]
    refine cnt_mono fun j hj e => ?_
    have e := of_decide_eq_true e
    refine decide_eq_true ?_
    rw [hcons, hcons, cons_lt] at e
    rw [hb j hj, hb k hk]
    rcases e with e | ⟨e1, e2⟩
    · exact .inl (UInt8.lt_iff_toNat_lt.1 e)
    · refine .inr ⟨by rw [e1], ?_⟩
      by_cases hjk : j < k
      · exact hjk
      · exfalso
        by_cases hj2 : j = k
        · rw [hj2] at e2; exact irr _ e2
        · exact h.rise _ k j (by omega) hj e2
  · show _ < cnt (fun j => decide (¬ cy x (pv x.length (σ k)) x.length < cy x (σ j) x.length)) x.length
    rw [hcnt fun z => decide (¬ cy x (pv x.length (σ k)) x.length < z)]
    have h1 : sp t (bn t k) (k + 1) ≤ cnt (fun j => decide (¬ cy x (pv x.length (σ k)) x.length < cy x (pv x.length (σ j)) x.length)) x.length := by
      rw [sp_as t _ (k + 1) (by omega), hl]
      refine cnt_mono fun j hj e => ?_
      have e := of_decide_eq_true e
      refine decide_eq_true ?_
      rw [hcons, hcons, cons_lt]
      rw [hb j hj, hb k hk] at e
      rintro (h2 | ⟨h2, h3⟩)
      · rw [UInt8.lt_iff_toNat_lt] at h2
        omega
      · rw [h2] at e
        by_cases hj2 : j = k
        · rw [hj2] at h3; exact irr _ h3
        · exact h.rise _ j k (by omega) hk h3
    have h2 : sp t (bn t k) (k + 1) = sp t (bn t k) k + 1 := by
      unfold sp
      rw [show cnt (fun i => decide (bn t i = bn t k)) (k + 1) = cnt (fun i => decide (bn t i = bn t k)) k + (decide (bn t k = bn t k)).toNat from rfl]
      simp
      omega
    omega
/-- Where the way back stands behind d steps. -/
def lf (t : List UInt8) (a : Nat) : Nat → Nat
  | 0 => a
  | d + 1 => sp t (bn t (lf t a d)) (lf t a d)
theorem lf_lt (t : List UInt8) {a : Nat} (h : a < t.length) : ∀ d, lf t a d < t.length
  | 0 => h
  | d + 1 => sp_lt t (lf_lt t h d)
/-- The word that the way back tells. -/
def gt (t : List UInt8) (a : Nat) : List UInt8 := (List.range t.length).map fun k => t.getD (lf t a (t.length - 1 - k)) 0
theorem gt_len (t : List UInt8) (a : Nat) : (gt t a).length = t.length := by unfold gt; simp
theorem lf_turn {x t : List UInt8} {σ : Nat → Nat} (h : Bw x σ) (hl : t.length = x.length) (ht : ∀ k, k < x.length → t.getD k 0 = W x (σ k) (x.length - 1)) {a : Nat} (ha : a < x.length) (h0 : σ a = 0) :
    ∀ d, d < x.length → cy x (σ (lf t a d)) x.length = cy x (x.length - d) x.length
  | 0, _ => by
    show cy x (σ a) x.length = _
    rw [h0]
    unfold cy
    refine List.map_congr_left fun d _ => ?_
    unfold W
    rw [Nat.sub_zero, Nat.zero_add, Nat.add_mod_left]
  | d + 1, hd => by
    have ih := lf_turn h hl ht ha h0 d (by omega)
    have hx : 0 < x.length := by omega
    have hlt : lf t a d < x.length := by rw [← hl]; exact lf_lt t (by omega) d
    show cy x (σ (sp t (bn t (lf t a d)) (lf t a d))) x.length = _
    rw [back_step h hl ht hlt, cy_prev_last hx]
    have hw : ∀ e, e < x.length → W x (σ (lf t a d)) e = W x (x.length - d) e := fun e he => by
      have := congrArg (fun l => l.getD e 0) ih
      simp only [cy_get x _ he] at this
      exact this
    rw [hw _ (by omega), show cy x (σ (lf t a d)) (x.length - 1) = cy x (x.length - d) (x.length - 1) from List.map_congr_left fun e he => hw e (by have := List.mem_range.1 he; omega), ← cy_prev_last hx]
    unfold cy
    refine List.map_congr_left fun e _ => ?_
    unfold pv
    rw [W_mod]
    rw [W_shift, ← W_per x _ (x.length - 1 + e)]
    have e1 : W x (x.length - d) ((x.length - 1 + e) % x.length) = W x (x.length - (d + 1)) (e + x.length) := by
      rw [W_per, ← W_shift x (x.length - d) (x.length - 1), show x.length - d + (x.length - 1) = x.length - (d + 1) + x.length by omega, W_shift, Nat.add_comm x.length e]
    rw [e1, ← W_per, Nat.add_mod_right, W_per]
/-- BURROWS, WHEELER: the way back leads to the word. -/
theorem IsPut.back {x t : List UInt8} {a : Nat} (h : IsPut x t a) : gt t a = x := by
  obtain ⟨σ, h1, h2, h3⟩ := h.all
  refine List.ext_getElem (by rw [gt_len, h.len]) fun i i1 i2 => ?_
  have hx : 0 < x.length := by omega
  obtain ⟨ha, h0⟩ := h3 hx
  have hit : i < t.length := by rw [h.len]; exact i2
  have e1 : (gt t a)[i] = t.getD (lf t a (t.length - 1 - i)) 0 := by unfold gt; simp
  have hlt := lf_lt t (show a < t.length by rw [h.len]; exact ha) (t.length - 1 - i)
  rw [h.len] at hlt
  rw [e1, h.len, h2 _ hlt]
  have := congrArg (fun l => l.getD (x.length - 1) 0) (lf_turn h1 h.len h2 ha h0 (x.length - 1 - i) (by omega))
  simp only [cy_get x _ (show x.length - 1 < x.length by omega)] at this
  rw [this]
  unfold W
  rw [show x.length - (x.length - 1 - i) + (x.length - 1) = i + x.length by omega, Nat.add_mod_right, Nat.mod_eq_of_lt i2, List.getD_eq_getElem?_getD, List.getElem?_eq_getElem i2, Option.getD_some]
end Tm
end Go.Proofs.Ytapjodbaaejldaa
