
/-
Plain mathematics on searching: where a word stands in a text (Knuth, Morris, Pratt), and how far a word begins anew (the Z function). No program is named here.
-/
import Derived.Test.YtapjodbaaejldaaWordMath
namespace Go.Proofs.Ytapjodbaaejldaa
namespace Wm
variable {α : Type}

/-- The first m values of p are those of f from k on. -/
def At (f p : Nat → α) (m k : Nat) : Prop := ∀ t, t < m → p t = f (k + t)
instance [DecidableEq α] (f p : Nat → α) (m k : Nat) : Decidable (At f p m k) := by unfold At; infer_instance
/-- The places below k at which the first m values of p stand in f. -/
def oc [DecidableEq α] (f p : Nat → α) (m : Nat) : Nat → List Nat
  | 0 => []
  | k + 1 => if At f p m k then oc f p m k ++ [k] else oc f p m k
section
variable [DecidableEq α]
theorem oc_mem {f p : Nat → α} {m : Nat} : ∀ {k x : Nat}, x ∈ oc f p m k ↔ (x < k ∧ At f p m x) := by
  intro k
  induction k with
  | zero => intro x; simp [oc]
  | succ k ih =>
    intro x
    rw [oc]
    split
    · rename_i h
      rw [List.mem_append, ih, List.mem_singleton]
      constructor
      · rintro (⟨h1, h2⟩ | rfl)
        · exact ⟨by omega, h2⟩
        · exact ⟨by omega, h⟩
      · rintro ⟨h1, h2⟩
        by_cases e : x = k
        · exact .inr e
        · exact .inl ⟨by omega, h2⟩
    · rename_i h
      rw [ih]
      constructor
      · rintro ⟨h1, h2⟩; exact ⟨by omega, h2⟩
      · rintro ⟨h1, h2⟩
        refine ⟨?_, h2⟩
        by_cases e : x = k
        · subst e; exact absurd h2 h
        · omega
theorem oc_len (f p : Nat → α) (m k : Nat) : (oc f p m k).length ≤ k := by
  induction k with
  | zero => simp [oc]
  | succ k ih =>
    rw [oc]
    split
    · rw [List.length_append, List.length_singleton]; omega
    · omega
theorem oc_sorted (f p : Nat → α) (m k : Nat) : (oc f p m k).Pairwise (· < ·) := by
  induction k with
  | zero => exact List.Pairwise.nil
  | succ k ih =>
    rw [oc]
    split
    · rw [List.pairwise_append]
      refine ⟨ih, by simp, fun a ha b hb => ?_⟩
      rw [List.mem_singleton] at hb
      have := (oc_mem.1 ha).1
      omega
    · exact ih
end

/-- The first q values of p are the last q of the first i of f. -/
def Suf (f p : Nat → α) (i q : Nat) : Prop := q ≤ i ∧ ∀ t, t < q → p t = f (i - q + t)
theorem suf_zero (f p : Nat → α) (i : Nat) : Suf f p i 0 := ⟨Nat.zero_le _, fun t ht => by omega⟩
theorem suf_succ {f p : Nat → α} {i k : Nat} : Suf f p (i + 1) (k + 1) ↔ (Suf f p i k ∧ p k = f i) := by
  constructor
  · intro h
    have h1 := h.1
    refine ⟨⟨by omega, fun t ht => ?_⟩, ?_⟩
    · rw [h.2 t (by omega)]; congr 1; omega
    · rw [h.2 k (by omega)]; congr 1; omega
  · rintro ⟨h, e⟩
    have h1 := h.1
    refine ⟨by omega, fun t ht => ?_⟩
    by_cases htk : t = k
    · subst htk; rw [e]; congr 1; omega
    · rw [h.2 t (by omega)]; congr 1; omega
theorem suf_bd {f p : Nat → α} {i k j : Nat} (h : Suf f p i k) (b : Bd p k j) : Suf f p i j := by
  have h1 := h.1; have h2 := b.1
  refine ⟨by omega, fun t ht => ?_⟩
  rw [b.2 t ht, h.2 (k - j + t) (by omega)]
  congr 1; omega
theorem suf_inner {f p : Nat → α} {i k j : Nat} (h : Suf f p i k) (h' : Suf f p i j) (hj : j ≤ k) : Bd p k j := by
  have h1 := h.1; have h2 := h'.1
  refine ⟨hj, fun t ht => ?_⟩
  rw [h'.2 t ht, h.2 (k - j + t) (by omega)]
  congr 1; omega
theorem suf_at {f p : Nat → α} {i m : Nat} : Suf f p i m ↔ (m ≤ i ∧ At f p m (i - m)) := Iff.rfl

/-- What the search keeps between two bytes: k is the longest that fits, shorter than p. -/
def Kq (f p : Nat → α) (m i k : Nat) : Prop := k < m ∧ Suf f p i k ∧ ∀ j, j < m → Suf f p i j → j ≤ k
/-- What the search keeps inside, when it is at byte i. -/
def Ki (f p : Nat → α) (m i k : Nat) : Prop := k < m ∧ Suf f p i k ∧ ∀ j, j < m → Suf f p (i + 1) (j + 1) → j ≤ k
theorem kq_zero (f p : Nat → α) {m : Nat} (hm : 0 < m) : Kq f p m 0 0 := ⟨hm, suf_zero f p 0, fun _ _ h => h.1⟩
theorem kq_ki {f p : Nat → α} {m i k : Nat} (h : Kq f p m i k) : Ki f p m i k := ⟨h.1, h.2.1, fun j hj hs => h.2.2 j hj (suf_succ.1 hs).1⟩
theorem ki_down [DecidableEq α] {f p : Nat → α} {m i k : Nat} (h : Ki f p m i k) (hk : 0 < k) (hne : p k ≠ f i) : Ki f p m i (lb p k) := by
  have hl := lb_lt p hk
  have h1 := h.1
  refine ⟨by omega, suf_bd h.2.1 (lb_bd p k), fun j hj hs => ?_⟩
  have hjk := h.2.2 j hj hs
  have hjne : j ≠ k := fun e => hne (by rw [← e]; exact (suf_succ.1 hs).2)
  exact lb_max p (suf_inner h.2.1 (suf_succ.1 hs).1 hjk) (by omega)
/-- The byte fits, and p is not yet whole. -/
theorem ki_hit {f p : Nat → α} {m i k : Nat} (h : Ki f p m i k) (e : p k = f i) (hk : k + 1 < m) : Kq f p m (i + 1) (k + 1) ∧ ¬ Suf f p (i + 1) m := by
  refine ⟨⟨hk, suf_succ.2 ⟨h.2.1, e⟩, fun j hj hs => ?_⟩, fun hs => ?_⟩
  · cases j with
    | zero => omega
    | succ j => have := h.2.2 j (by omega) hs; omega
  · obtain ⟨m', rfl⟩ : ∃ m', m = m' + 1 := ⟨m - 1, by omega⟩
    have := h.2.2 m' (by omega) hs
    omega
/-- The byte fits, and p is whole. -/
theorem ki_full [DecidableEq α] {f p : Nat → α} {m i k : Nat} (h : Ki f p m i k) (e : p k = f i) (hk : k + 1 = m) : Kq f p m (i + 1) (lb p m) ∧ Suf f p (i + 1) m := by
  have hs : Suf f p (i + 1) m := by rw [← hk]; exact suf_succ.2 ⟨h.2.1, e⟩
  refine ⟨⟨lb_lt p (by omega), suf_bd hs (lb_bd p m), fun j hj hs' => ?_⟩, hs⟩
  exact lb_max p (suf_inner hs hs' (by omega)) hj
/-- Nothing fits. -/
theorem ki_miss {f p : Nat → α} {m i : Nat} (h : Ki f p m i 0) (hne : p 0 ≠ f i) : Kq f p m (i + 1) 0 ∧ ¬ Suf f p (i + 1) m := by
  have key : ∀ j, j ≤ m → Suf f p (i + 1) j → j = 0 := by
    intro j hj hs
    cases j with
    | zero => rfl
    | succ j =>
      have := h.2.2 j (by omega) hs
      obtain rfl : j = 0 := by omega
      exact absurd (suf_succ.1 hs).2 hne
  refine ⟨⟨h.1, suf_zero f p _, fun j hj hs => ?_⟩, fun hs => ?_⟩
  · rw [key j (by omega) hs]; exact Nat.zero_le _
  · have := key m (Nat.le_refl _) hs
    have := h.1
    omega
section
variable [DecidableEq α]
instance (f p : Nat → α) (i q : Nat) : Decidable (Suf f p i q) := by unfold Suf; infer_instance
/-- The places found when i bytes more are read. -/
theorem oc_step {f p : Nat → α} {m i : Nat} (_ : 0 < m) : oc f p m (i + 2 - m) = if Suf f p (i + 1) m then oc f p m (i + 1 - m) ++ [i + 1 - m] else oc f p m (i + 1 - m) := by
  by_cases hmi : m ≤ i + 1
  · rw [show i + 2 - m = (i + 1 - m) + 1 by omega, oc]
    by_cases h : At f p m (i + 1 - m)
    · rw [if_pos h, if_pos (suf_at.2 ⟨hmi, h⟩)]
    · rw [if_neg h, if_neg fun hs => h (suf_at.1 hs).2]
  · rw [show i + 2 - m = 0 by omega, show i + 1 - m = 0 by omega, if_neg fun hs => hmi hs.1]
theorem oc_hit {f p : Nat → α} {m i : Nat} (hm : 0 < m) (h : Suf f p (i + 1) m) : oc f p m (i + 2 - m) = oc f p m (i + 1 - m) ++ [i + 1 - m] := by
  have := oc_step (f := f) (p := p) (m := m) (i := i) hm
  rwa [if_pos h] at this
theorem oc_not {f p : Nat → α} {m i : Nat} (hm : 0 < m) (h : ¬ Suf f p (i + 1) m) : oc f p m (i + 2 - m) = oc f p m (i + 1 - m) := by
  have := oc_step (f := f) (p := p) (m := m) (i := i) hm
  rwa [if_neg h] at this

/-- How many values from i on are those from 0 on, k of them being so: at most c more. -/
def zg (f h : Nat → α) : Nat → Nat → Nat
  | 0, k => k
  | c + 1, k => if f k = h k then zg f h c (k + 1) else k
/-- How far the first n values of f begin anew at i. -/
def zf (f : Nat → α) (n i : Nat) : Nat := zg f (fun t => f (i + t)) (n - i) 0
theorem zg_spec (f h : Nat → α) : ∀ c k, (∀ t, t < k → f t = h t) → k ≤ zg f h c k ∧ zg f h c k ≤ k + c ∧ (∀ t, t < zg f h c k → f t = h t) ∧ (zg f h c k < k + c → f (zg f h c k) ≠ h (zg f h c k)) := by
  intro c
  induction c with
  | zero => intro k hk; exact ⟨Nat.le_refl _, by simp [zg], hk, fun h' => by simp [zg] at h'⟩
  | succ c ih =>
    intro k hk
    rw [zg]
    split
    · rename_i e
      obtain ⟨h1, h2, h3, h4⟩ := ih (k + 1) (fun t ht => by
        by_cases htk : t = k
        · rw [htk]; exact e
        · exact hk t (by omega))
      exact ⟨by omega, by omega, h3, fun h' => h4 (by omega)⟩
    · rename_i e
      exact ⟨Nat.le_refl _, by omega, hk, fun _ => e⟩
theorem zf_spec (f : Nat → α) (n i : Nat) : zf f n i ≤ n - i ∧ (∀ t, t < zf f n i → f t = f (i + t)) ∧ (zf f n i < n - i → f (zf f n i) ≠ f (i + zf f n i)) := by
  have h := zg_spec f (fun t => f (i + t)) (n - i) 0 (fun t ht => by omega)
  rw [Nat.zero_add] at h
  exact h.2
theorem zf_unique {f : Nat → α} {n i k : Nat} (h1 : k ≤ n - i) (h2 : ∀ t, t < k → f t = f (i + t)) (h3 : k < n - i → f k ≠ f (i + k)) : k = zf f n i := by
  obtain ⟨g1, g2, g3⟩ := zf_spec f n i
  rcases Nat.lt_trichotomy k (zf f n i) with h | h | h
  · exact absurd (g2 k h) (h3 (by omega))
  · exact h
  · exact absurd (h2 _ h) (g3 (by omega))
theorem zf_zero (f : Nat → α) (n : Nat) : zf f n 0 = n := by
  refine (zf_unique (Nat.le_of_eq (Nat.sub_zero n).symm) (fun t _ => by rw [Nat.zero_add]) fun h => by omega).symm
/-- m values at k just if it begins anew so far. -/
theorem zf_ge {f : Nat → α} {n i m : Nat} : m ≤ zf f n i ↔ (m ≤ n - i ∧ ∀ t, t < m → f t = f (i + t)) := by
  obtain ⟨g1, g2, g3⟩ := zf_spec f n i
  constructor
  · intro h; exact ⟨by omega, fun t ht => g2 t (by omega)⟩
  · rintro ⟨h1, h2⟩
    rcases Nat.lt_or_ge (zf f n i) m with h | h
    · exact absurd (h2 _ h) (g3 (by omega))
    · exact h
end
end Wm
end Go.Proofs.Ytapjodbaaejldaa
