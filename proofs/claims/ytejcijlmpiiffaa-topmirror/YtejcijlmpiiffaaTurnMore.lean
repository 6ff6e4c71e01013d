
/-
Plain mathematics of the Burrows-Wheeler transform, more of it: all turns of a word have the same transform; searching from behind counts the places. No program is named here.
-/
import Derived.Test.YtejcijlmpiiffaaTCount
namespace Go.Proofs.Ytejcijlmpiiffaa
namespace Tm
open Lm Sm

/-- A turn of x, as a list. -/
def rt (x : List UInt8) (k : Nat) : List UInt8 := x.drop k ++ x.take k
theorem rt_len {x : List UInt8} {k : Nat} (h : k ≤ x.length) : (rt x k).length = x.length := by unfold rt; rw [List.length_append, List.length_drop, List.length_take]; omega
theorem rt_get {x : List UInt8} {k i : Nat} (hk : k ≤ x.length) (hi : i < x.length) : (rt x k).getD i 0 = x.getD ((k + i) % x.length) 0 := by
  unfold rt
  rw [List.getD_eq_getElem?_getD, List.getD_eq_getElem?_getD, List.getElem?_append]
  by_cases h : i < (x.drop k).length
  · rw [if_pos h, List.getElem?_drop]
    rw [List.length_drop] at h
    rw [Nat.mod_eq_of_lt (by omega)]
  · rw [if_neg h, List.getElem?_take]
    rw [List.length_drop] at *
    rw [if_pos (by omega)]
    have e : (k + i) % x.length = i - (x.length - k) := by
      rw [Nat.mod_eq_sub_mod (by omega), Nat.mod_eq_of_lt (by omega)]
      omega
    rw [e]
theorem rt_W {x : List UInt8} {k : Nat} (hk : k ≤ x.length) (hx : 0 < x.length) (i d : Nat) : W (rt x k) i d = W x (k + i) d := by
  unfold W
  rw [rt_len hk, rt_get hk (Nat.mod_lt _ hx), Nat.add_mod_mod, Nat.add_assoc]
theorem rt_cy {x : List UInt8} {k : Nat} (hk : k ≤ x.length) (hx : 0 < x.length) (i m : Nat) : cy (rt x k) i m = cy x ((k + i) % x.length) m := by
  unfold cy
  exact List.map_congr_left fun d _ => by rw [rt_W hk hx, W_mod]
theorem turn_bij (n k : Nat) : Bij n (fun i => (k + i) % n) := by
  refine ⟨fun i hi => Nat.mod_lt _ (by omega), fun i j hi hj h => ?_⟩
  have h : (k + i) % n = (k + j) % n := h
  have h1 : (k % n + i) % n = (k % n + j) % n := by rw [Nat.mod_add_mod, Nat.mod_add_mod]; exact h
  have h2 := Nat.mod_lt k (show 0 < n by omega)
  generalize k % n = r at h1 h2
  have e : ∀ i, i < n → (r + i) % n = if r + i < n then r + i else r + i - n := fun i hi => by
    by_cases h : r + i < n
    · rw [if_pos h, Nat.mod_eq_of_lt h]
    · rw [if_neg h, Nat.mod_eq_sub_mod (by omega), Nat.mod_eq_of_lt (by omega)]
  rw [e i hi, e j hj] at h1
  split at h1 <;> split at h1 <;> omega
/-- All turns of a word have the same last bytes. -/
theorem IsPut.turned {x t u : List UInt8} {a b k : Nat} (hk : k ≤ x.length) (h : IsPut x t a) (g : IsPut (rt x k) u b) : t = u := by
  have hl := rt_len hk
  obtain ⟨σ, h1, h2, _⟩ := h.all
  obtain ⟨τ, g1, g2, _⟩ := g.all
  refine List.ext_getElem (by rw [h.len, g.len, hl]) fun i i1 i2 => ?_
  have hi : i < x.length := by rw [← h.len]; exact i1
  have hx : 0 < x.length := by omega
  have e1 := h2 i hi
  have e2 := g2 i (by rw [hl]; exact hi)
  rw [List.getD_eq_getElem?_getD, List.getElem?_eq_getElem i1, Option.getD_some] at e1
  rw [List.getD_eq_getElem?_getD, List.getElem?_eq_getElem i2, Option.getD_some] at e2
  rw [e1, e2]
  have hb2 := g1.bij
  rw [hl] at hb2
  have hsame := same_rows (n := x.length) (T := fun j => cy x (σ j) x.length) (U := fun j => cy (rt x k) (τ j) x.length) (h1.rise x.length) (fun i j hij hj => g1.rise x.length i j hij (by rw [hl]; exact hj)) (fun P => by
    show cnt (fun j => P (cy x (σ j) x.length)) x.length = cnt (fun j => P (cy (rt x k) (τ j) x.length)) x.length
    rw [h1.bij.cnt (fun i => P (cy x i x.length)), hb2.cnt (fun i => P (cy (rt x k) i x.length)), ← (turn_bij x.length k).cnt (fun i => P (cy x i x.length))]
    exact cnt_congr fun j _ => by rw [rt_cy hk hx]) hi
  have := congrArg (fun l => l.getD (x.length - 1) 0) hsame
  simp only [cy_get x _ (show x.length - 1 < x.length by omega), cy_get (rt x k) _ (show x.length - 1 < x.length by omega)] at this
  rw [this, hl]
/-- The bytes of the transform are those of the word. -/
theorem IsPut.perm {x t : List UInt8} {a : Nat} (h : IsPut x t a) : t.Perm x := by
  obtain ⟨σ, h1, h2, _⟩ := h.all
  by_cases hx : x.length = 0
  · rw [List.eq_nil_of_length_eq_zero hx, List.eq_nil_of_length_eq_zero (h.len.trans hx)]
  · have e1 : t = ((List.range x.length).map σ).map (fun i => x.getD (pv x.length i) 0) := by
      refine List.ext_getElem (by simp [h.len]) fun i i1 i2 => ?_
      have hi : i < x.length := by rw [← h.len]; exact i1
      have e := h2 i hi
      rw [List.getD_eq_getElem?_getD, List.getElem?_eq_getElem i1, Option.getD_some] at e
      rw [e]
      simp
      rfl
    have e2 : x = (List.range x.length).map (fun i => x.getD i 0) := by
      refine List.ext_getElem (by simp) fun i i1 i2 => ?_
      simp [List.getD_eq_getElem?_getD, List.getElem?_eq_getElem i1]
    have h3 := (h1.bij.perm.map (fun i => x.getD (pv x.length i) 0))
    have h4 := ((pv_bij x.length).perm.map (fun i => x.getD i 0))
    rw [List.map_map] at h4
    rw [← e1] at h3
    rw [← e2] at h4
    exact h3.trans h4

/-- What holds up to some place only is told by its count. -/
theorem seg {P : Nat → Bool} : ∀ {n}, (∀ i j, i < j → j < n → P j = true → P i = true) → ∀ j, j < n → (j < cnt P n ↔ P j = true)
  | 0, _, j, hj => by omega
  | n + 1, h, j, hj => by
    have ih := seg (n := n) fun i j hij hj => h i j hij (by omega)
    have hc := cnt_le P n
    show j < cnt P n + (P n).toNat ↔ _
    cases hp : P n
    · rw [show false.toNat = 0 from rfl, Nat.add_zero]
      by_cases hjn : j = n
      · subst hjn
        simp [hp]
        omega
      · exact ih j (by omega)
    · have hall : ∀ i, i < n → P i = true := fun i hi => h i n hi (by omega) hp
      have : cnt P n = n := by
        have h1 := cnt_mono (n := n) (P := fun j => decide (j < n)) (Q := P) fun j hj _ => hall j hj
        rw [cnt_below] at h1
        omega
      rw [this, show true.toNat = 1 from rfl]
      by_cases hjn : j = n
      · subst hjn; simp [hp]
      · simp [hall j (by omega)]
        omega
def lowT (x : List UInt8) (σ : Nat → Nat) (q : List UInt8) : Nat := cnt (fun j => decide (cy x (σ j) q.length < q)) x.length
def highT (x : List UInt8) (σ : Nat → Nat) (q : List UInt8) : Nat := cnt (fun j => decide (¬ q < cy x (σ j) q.length)) x.length
theorem lowT_iff {x : List UInt8} {σ : Nat → Nat} (h : Bw x σ) (q : List UInt8) {j : Nat} (hj : j < x.length) : j < lowT x σ q ↔ cy x (σ j) q.length < q := by
  unfold lowT
  rw [seg (fun i j hij hj e => decide_eq_true (le_lt (h.rise q.length i j hij hj) (of_decide_eq_true e))) j hj, decide_eq_true_iff]
theorem highT_iff {x : List UInt8} {σ : Nat → Nat} (h : Bw x σ) (q : List UInt8) {j : Nat} (hj : j < x.length) : j < highT x σ q ↔ ¬ q < cy x (σ j) q.length := by
  unfold highT
  have hs : ∀ i j, i < j → j < x.length → (decide (¬ q < cy x (σ j) q.length)) = true → (decide (¬ q < cy x (σ i) q.length)) = true := fun i j hij hj e => by
    have e1 : ¬ q < cy x (σ j) q.length := of_decide_eq_true e
    exact decide_eq_true (fun hc => e1 (lt_le hc (h.rise q.length i j hij hj)))
  rw [seg (P := fun j => decide (¬ q < cy x (σ j) q.length)) hs j hj, decide_eq_true_iff]
theorem step_cnt {x : List UInt8} {σ : Nat → Nat} (h : Bw x σ) (hx : 0 < x.length) (P : List UInt8 → Bool) (m : Nat) :
    cnt (fun j => P (W x (σ j) (x.length - 1) :: cy x (σ j) m)) x.length = cnt (fun j => P (cy x (σ j) (m + 1))) x.length := by
  rw [h.bij.cnt (fun i => P (cy x i (m + 1))), ← (pv_bij x.length).cnt (fun i => P (cy x i (m + 1))), ← h.bij.cnt (fun i => P (cy x (pv x.length i) (m + 1)))]
  exact cnt_congr fun j _ => by rw [cy_prev hx]
theorem lowT_step {x t : List UInt8} {σ : Nat → Nat} (h : Bw x σ) (hl : t.length = x.length) (ht : ∀ k, k < x.length → t.getD k 0 = W x (σ k) (x.length - 1)) (hx : 0 < x.length) (c : UInt8) (q : List UInt8) :
    sp t c.toNat (lowT x σ q) = lowT x σ (c :: q) := by
  have hle : lowT x σ q ≤ t.length := by rw [hl]; exact cnt_le _ _
  rw [sp_as t _ _ hle, hl]
  unfold lowT
  rw [List.length_cons, ← step_cnt h hx (fun z => decide (z < c :: q))]
  refine cnt_congr fun j hj => decide_eq_decide.2 ?_
  have := lowT_iff h q hj
  unfold lowT at this
  rw [this, cons_lt, show bn t j = (W x (σ j) (x.length - 1)).toNat by unfold bn; rw [ht j hj], UInt8.lt_iff_toNat_lt, ← UInt8.toNat_inj]
theorem highT_step {x t : List UInt8} {σ : Nat → Nat} (h : Bw x σ) (hl : t.length = x.length) (ht : ∀ k, k < x.length → t.getD k 0 = W x (σ k) (x.length - 1)) (hx : 0 < x.length) (c : UInt8) (q : List UInt8) :
    sp t c.toNat (highT x σ q) = highT x σ (c :: q) := by
  have hle : highT x σ q ≤ t.length := by rw [hl]; exact cnt_le _ _
  rw [sp_as t _ _ hle, hl]
  unfold highT
  rw [List.length_cons, ← step_cnt h hx (fun z => decide (¬ c :: q < z))]
  refine cnt_congr fun j hj => decide_eq_decide.2 ?_
  have := highT_iff h q hj
  unfold highT at this
  rw [this, cons_lt, show bn t j = (W x (σ j) (x.length - 1)).toNat by unfold bn; rw [ht j hj], UInt8.lt_iff_toNat_lt, ← UInt8.toNat_inj]
  constructor
  · rintro (h1 | ⟨h1, h2⟩) (h3 | ⟨h3, h4⟩)
    · omega
    · omega
    · omega
    · exact h2 h4
  · intro h1
    by_cases h2 : (W x (σ j) (x.length - 1)).toNat < c.toNat
    · exact .inl h2
    · by_cases h3 : (W x (σ j) (x.length - 1)).toNat = c.toNat
      · exact .inr ⟨h3, fun h4 => h1 (.inr ⟨h3.symm, h4⟩)⟩
      · exact absurd (.inl (by omega)) h1
theorem zero_len {x : List UInt8} (p : List UInt8) (h : x.length = 0) (t : List UInt8) (ht : t.length = x.length) : csn t p = 0 := by
  have := cs_le t p p.length
  unfold csn
  omega
/-- How many places of the ring have q. -/
def occ (x q : List UInt8) : Nat := cnt (fun i => decide (cy x i q.length = q)) x.length
theorem occ_as {x : List UInt8} {σ : Nat → Nat} (h : Bw x σ) (q : List UInt8) : highT x σ q = lowT x σ q + occ x q := by
  unfold highT lowT occ
  rw [← h.bij.cnt (fun i => decide (cy x i q.length = q))]
  refine cnt_or (fun j _ hc => ?_) (fun j _ => ?_)
  · have h1 := of_decide_eq_true hc.1
    rw [of_decide_eq_true hc.2] at h1
    exact irr _ h1
  · rw [← Bool.decide_or]
    refine decide_eq_decide.2 ⟨fun h1 => ?_, ?_⟩
    · by_cases h2 : cy x (σ j) q.length < q
      · exact .inl h2
      · exact .inr (tri h2 h1)
    · rintro (h1 | h1)
      · exact Sm.as_ h1
      · rw [h1]; exact irr _
theorem cnt_zero {P : Nat → Bool} {n : Nat} (h : cnt P n = 0) (j : Nat) (hj : j < n) : P j = false := by
  induction n with
  | zero => omega
  | succ n ih =>
    have h : cnt P n + (P n).toNat = 0 := h
    by_cases hjn : j = n
    · subst hjn
      cases hp : P j
      · rfl
      · rw [hp] at h; simp at h
    · exact ih (by omega) (by omega)
theorem occ_zero {x q : List UInt8} (hx : 0 < x.length) (c : UInt8) (h : occ x q = 0) : occ x (c :: q) = 0 := by
  have hz := cnt_zero h
  have : cnt (fun i => decide (cy x i (c :: q).length = c :: q)) x.length ≤ cnt (fun i => decide (i < 0)) x.length := cnt_mono fun i hi e => by
    have e := of_decide_eq_true e
    rw [List.length_cons, cy_succ] at e
    have e2 := (List.cons.inj e).2
    have := of_decide_eq_false (hz ((i + 1) % x.length) (Nat.mod_lt _ hx))
    refine absurd ?_ this
    rw [← e2]
    rw [cy_len]
    unfold cy
    exact List.map_congr_left fun d _ => W_mod _ _ _
  rw [cnt_below] at this
  unfold occ
  omega
theorem drop_cons {p : List UInt8} {d : Nat} (h : d < p.length) : p.drop (p.length - (d + 1)) = p.getD (p.length - 1 - d) 0 :: p.drop (p.length - d) := by
  rw [List.drop_eq_getElem_cons (by omega), List.getD_eq_getElem?_getD, List.getElem?_eq_getElem (by omega), Option.getD_some]
  congr 1
  · congr 1; omega
  · congr 1; omega
theorem cs_is {x t p : List UInt8} {σ : Nat → Nat} (h : Bw x σ) (hl : t.length = x.length) (ht : ∀ k, k < x.length → t.getD k 0 = W x (σ k) (x.length - 1)) (hx : 0 < x.length) :
    ∀ d, d ≤ p.length → (cs t p d = (lowT x σ (p.drop (p.length - d)), highT x σ (p.drop (p.length - d)))) ∨ ((cs t p d).1 = (cs t p d).2 ∧ occ x (p.drop (p.length - d)) = 0)
  | 0, _ => by
    refine .inl ?_
    rw [Nat.sub_zero, List.drop_length]
    show (0, t.length) = _
    have h1 : lowT x σ [] = 0 := by
      have := cnt_mono (n := x.length) (P := fun j => decide (cy x (σ j) ([] : List UInt8).length < [])) (Q := fun i => decide (i < 0)) fun j _ e => absurd (of_decide_eq_true e) (List.not_lt_nil _)
      rw [cnt_below] at this
      unfold lowT
      omega
    have h2 : highT x σ [] = x.length := by
      have := cnt_mono (n := x.length) (P := fun i => decide (i < x.length)) (Q := fun j => decide (¬ ([] : List UInt8) < cy x (σ j) ([] : List UInt8).length)) fun j _ e => by
        refine decide_eq_true ?_
        rw [show cy x (σ j) ([] : List UInt8).length = [] from rfl]
        exact irr _
      rw [cnt_below] at this
      have h3 := cnt_le (fun j => decide (¬ ([] : List UInt8) < cy x (σ j) ([] : List UInt8).length)) x.length
      unfold highT
      omega
    rw [h1, h2, hl]
  | d + 1, hd => by
    have ih := cs_is (p := p) h hl ht hx d (by omega)
    rw [drop_cons (by omega)]
    have hcs : cs t p (d + 1) = if (cs t p d).1 < (cs t p d).2 then (sp t (Lm.bn p (p.length - 1 - d)) (cs t p d).1, sp t (Lm.bn p (p.length - 1 - d)) (cs t p d).2) else cs t p d := rfl
    have hle := (cs_le t p d).1
    rcases ih with ih | ⟨ih1, ih2⟩
    · by_cases hlt : (cs t p d).1 < (cs t p d).2
      · refine .inl ?_
        rw [hcs, if_pos hlt, ih]
        show (sp t (p.getD (p.length - 1 - d) 0).toNat _, sp t (p.getD (p.length - 1 - d) 0).toNat _) = _
        rw [lowT_step h hl ht hx, highT_step h hl ht hx]
      · refine .inr ?_
        rw [hcs, if_neg hlt]
        refine ⟨by omega, occ_zero hx _ ?_⟩
        have := occ_as h (p.drop (p.length - d))
        rw [ih] at hlt
        have hlt : ¬ lowT x σ (p.drop (p.length - d)) < highT x σ (p.drop (p.length - d)) := hlt
        omega
    · refine .inr ?_
      rw [hcs, if_neg (by omega)]
      exact ⟨ih1, occ_zero hx _ ih2⟩
/-- FERRAGINA, MANZINI: the search from behind counts the places of the ring. -/
theorem IsPut.count {x t : List UInt8} {a : Nat} (h : IsPut x t a) (p : List UInt8) : csn t p = occ x p := by
  obtain ⟨σ, h1, h2, _⟩ := h.all
  by_cases hx : x.length = 0
  · rw [zero_len p hx t h.len]
    unfold occ
    rw [hx]
    rfl
  · have hx : 0 < x.length := by omega
    unfold csn
    rcases cs_is (p := p) h1 h.len h2 hx p.length (Nat.le_refl _) with e | ⟨e1, e2⟩
    · rw [e, Nat.sub_self, List.drop_zero]
      have := occ_as h1 p
      show highT x σ p - lowT x σ p = _
      omega
    · rw [Nat.sub_self, List.drop_zero] at e2
      omega
end Tm
end Go.Proofs.Ytejcijlmpiiffaa
