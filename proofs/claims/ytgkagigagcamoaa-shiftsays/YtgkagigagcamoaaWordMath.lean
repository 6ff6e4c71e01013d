
/-
Plain mathematics on words: borders, periods, Fine and Wilf, roots. No program is named here.
-/
namespace Go.Proofs.Ytgkagigagcamoaa
namespace Wm
variable {α : Type}

/-- 'd' is a period of the first n values of f. -/
def Per (f : Nat → α) (n d : Nat) : Prop := ∀ i, i + d < n → f i = f (i + d)
/-- The first k of the first i values of f are also the last k of them. -/
def Bd (f : Nat → α) (i k : Nat) : Prop := k ≤ i ∧ ∀ t, t < k → f t = f (i - k + t)

theorem Per.mod {f : Nat → α} {n d : Nat} (h : Per f n d) : ∀ i, i < n → f i = f (i % d) := by
  intro i
  induction i using Nat.strongRecOn with
  | ind i ih =>
    intro hi
    by_cases hlt : i < d
    · rw [Nat.mod_eq_of_lt hlt]
    · by_cases h0 : d = 0
      · subst h0; simp
      · have h1 := h (i - d) (by omega)
        have h2 := ih (i - d) (by omega) (by omega)
        rw [show i - d + d = i by omega] at h1
        rw [← h1, h2, Nat.mod_eq_sub_mod (a := i) (by omega)]
theorem Per.of_mod {f : Nat → α} {n d : Nat} (h : ∀ i, i < n → f i = f (i % d)) : Per f n d := by
  intro i hi
  rw [h i (by omega), h (i + d) hi, Nat.add_mod_right]
theorem Per.less {f : Nat → α} {n m d : Nat} (h : Per f n d) (hm : m ≤ n) : Per f m d := fun i hi => h i (by omega)

/-- FINE, WILF. -/
theorem fine {f : Nat → α} : ∀ (s p q n : Nat), p + q ≤ s → 0 < p → 0 < q → Per f n p → Per f n q → p + q ≤ n + Nat.gcd p q → Per f n (Nat.gcd p q) := by
  intro s
  induction s with
  | zero => intro p q n h hp hq; omega
  | succ s ih =>
    have main : ∀ p q n, p + q ≤ s + 1 → 0 < p → 0 < q → q < p → Per f n p → Per f n q → p + q ≤ n + Nat.gcd p q → Per f n (Nat.gcd p q) := by
      intro p q n hs hp hq hlt P Q hn
      have hg : Nat.gcd (p - q) q = Nat.gcd p q := Nat.gcd_sub_self_left (by omega)
      have hgp : Nat.gcd p q ≤ p - q := by
        rw [← hg]; exact Nat.gcd_le_left _ (by omega)
      have hgq : Nat.gcd p q ∣ q := Nat.gcd_dvd_right p q
      have P1 : Per f (n - q) (p - q) := by
        intro i hi
        have a := P i (by omega)
        have b := Q (i + (p - q)) (by omega)
        rw [show i + (p - q) + q = i + p by omega] at b
        rw [a, b]
      have Q1 : Per f (n - q) q := Q.less (by omega)
      have G : Per f (n - q) (Nat.gcd p q) := by
        have := ih (p - q) q (n - q) (by omega) (by omega) hq P1 Q1 (by rw [hg]; omega)
        rwa [hg] at this
      apply Per.of_mod
      intro i hi
      have hmq : i % q < q := Nat.mod_lt _ hq
      rw [Q.mod i hi, G.mod (i % q) (by omega), Nat.mod_mod_of_dvd _ hgq]
    intro p q n hs hp hq P Q hn
    rcases Nat.lt_trichotomy q p with h | h | h
    · exact main p q n hs hp hq h P Q hn
    · subst h; rw [Nat.gcd_self]; exact P
    · rw [Nat.gcd_comm] at hn ⊢
      exact main q p n (by omega) hq hp h Q P (by omega)

theorem bd_per {f : Nat → α} {n k : Nat} (hk : k ≤ n) : Bd f n k ↔ Per f n (n - k) := by
  constructor
  · intro h i hi; rw [h.2 i (by omega), Nat.add_comm]
  · intro h; refine ⟨hk, fun t ht => ?_⟩; rw [h t (by omega), Nat.add_comm]
theorem bd_zero (f : Nat → α) (n : Nat) : Bd f n 0 := ⟨Nat.zero_le _, fun t ht => by omega⟩
theorem bd_self (f : Nat → α) (n : Nat) : Bd f n n := ⟨Nat.le_refl _, fun t _ => by rw [Nat.sub_self, Nat.zero_add]⟩
/-- A border of a border. -/
theorem bd_trans {f : Nat → α} {n k m : Nat} (h : Bd f n k) (h' : Bd f k m) : Bd f n m := by
  refine ⟨Nat.le_trans h'.1 h.1, fun t ht => ?_⟩
  have h1 := h.1; have h2 := h'.1
  rw [h'.2 t ht, h.2 (k - m + t) (by omega)]
  congr 1; omega
theorem bd_inner {f : Nat → α} {n k m : Nat} (h : Bd f n k) (h' : Bd f n m) (hm : m ≤ k) : Bd f k m := by
  refine ⟨hm, fun t ht => ?_⟩
  have h1 := h.1; have h2 := h'.1
  rw [h'.2 t ht, h.2 (k - m + t) (by omega)]
  congr 1; omega
theorem bd_succ {f : Nat → α} {i k : Nat} : Bd f (i + 1) (k + 1) ↔ (Bd f i k ∧ f k = f i) := by
  constructor
  · intro h
    have h1 := h.1
    refine ⟨⟨by omega, fun t ht => ?_⟩, ?_⟩
    · rw [h.2 t (by omega)]; congr 1; omega
    · rw [h.2 k (by omega)]; congr 1; omega
  · rintro ⟨h, e⟩
    have h1 := h.1
    refine ⟨by omega, fun t ht => ?_⟩
    by_cases htk : t = k
    · subst htk; rw [e]; congr 1; omega
    · rw [h.2 t (by omega)]; congr 1; omega

instance [DecidableEq α] (f : Nat → α) (i k : Nat) : Decidable (Bd f i k) := by unfold Bd; infer_instance

/-- The greatest border of the first i values that has at most k. -/
def down [DecidableEq α] (f : Nat → α) (i : Nat) : Nat → Nat
  | 0 => 0
  | k + 1 => if Bd f i (k + 1) then k + 1 else down f i k
/-- The longest border of the first i values, less than i. -/
def lb [DecidableEq α] (f : Nat → α) (i : Nat) : Nat := down f i (i - 1)

section
variable [DecidableEq α]
theorem down_le (f : Nat → α) (i k : Nat) : down f i k ≤ k := by
  induction k with
  | zero => exact Nat.le_refl _
  | succ k ih => unfold down; split <;> omega
theorem down_bd (f : Nat → α) (i k : Nat) : Bd f i (down f i k) := by
  induction k with
  | zero => exact bd_zero f i
  | succ k ih => unfold down; split <;> assumption
theorem down_max (f : Nat → α) (i : Nat) : ∀ k j, j ≤ k → Bd f i j → j ≤ down f i k := by
  intro k
  induction k with
  | zero => intro j hj _; omega
  | succ k ih =>
    intro j hj h
    unfold down
    split
    · exact hj
    · rename_i hn
      by_cases e : j = k + 1
      · subst e; exact absurd h hn
      · exact ih j (by omega) h
theorem lb_lt (f : Nat → α) {i : Nat} (hi : 0 < i) : lb f i < i := by
  have := down_le f i (i - 1); unfold lb; omega
theorem lb_bd (f : Nat → α) (i : Nat) : Bd f i (lb f i) := down_bd f i _
theorem lb_max (f : Nat → α) {i j : Nat} (h : Bd f i j) (hj : j < i) : j ≤ lb f i := down_max f i _ _ (by omega) h
theorem lb_one (f : Nat → α) : lb f 1 = 0 := by have := lb_lt f (i := 1) (by omega); omega
theorem lb_unique (f : Nat → α) {i k : Nat} (hk : k < i) (h : Bd f i k) (hm : ∀ j, j < i → Bd f i j → j ≤ k) : lb f i = k := by
  have a := lb_max f h hk
  have b := hm _ (lb_lt f (by omega)) (lb_bd f i)
  omega

/-- What the inner loop of the failure function keeps. -/
def Kmp (f : Nat → α) (i k : Nat) : Prop := k < i ∧ Bd f i k ∧ ∀ j, j < i → Bd f (i + 1) (j + 1) → j ≤ k
theorem kmp_start (f : Nat → α) {i : Nat} (hi : 0 < i) : Kmp f i (lb f i) :=
  ⟨lb_lt f hi, lb_bd f i, fun _ hj h => lb_max f (bd_succ.1 h).1 hj⟩
theorem kmp_down {f : Nat → α} {i k : Nat} (h : Kmp f i k) (hk : 0 < k) (hne : f k ≠ f i) : Kmp f i (lb f k) := by
  have hl := lb_lt f hk
  have h1 := h.1
  refine ⟨by omega, bd_trans h.2.1 (lb_bd f k), fun j hj hb => ?_⟩
  have hjk := h.2.2 j hj hb
  have hjne : j ≠ k := fun e => hne (by rw [← e]; exact (bd_succ.1 hb).2)
  exact lb_max f (bd_inner h.2.1 (bd_succ.1 hb).1 hjk) (by omega)
theorem kmp_hit {f : Nat → α} {i k : Nat} (h : Kmp f i k) (e : f k = f i) : lb f (i + 1) = k + 1 := by
  have h1 := h.1
  refine lb_unique f (by omega) (bd_succ.2 ⟨h.2.1, e⟩) fun j hj hb => ?_
  cases j with
  | zero => omega
  | succ j => have := h.2.2 j (by omega) hb; omega
theorem kmp_miss {f : Nat → α} {i : Nat} (h : Kmp f i 0) (hne : f 0 ≠ f i) : lb f (i + 1) = 0 := by
  refine lb_unique f (by omega) (bd_zero f _) fun j hj hb => ?_
  cases j with
  | zero => omega
  | succ j =>
    have := h.2.2 j (by omega) hb
    have e : j = 0 := by omega
    subst e
    exact absurd (bd_succ.1 hb).2 hne

/-- The periods n - m for the borders m below k, the greatest border first. -/
def pl (f : Nat → α) (n : Nat) : Nat → List Nat
  | 0 => []
  | k + 1 => if Bd f n k then (n - k) :: pl f n k else pl f n k
theorem pl_jump {f : Nat → α} {n k : Nat} (h : Bd f n k) (hk : 0 < k) : pl f n k = (n - lb f k) :: pl f n (lb f k) := by
  have hl := lb_lt f hk
  have key : ∀ m, lb f k + 1 ≤ m → m ≤ k → pl f n m = (n - lb f k) :: pl f n (lb f k) := by
    intro m
    induction m with
    | zero => intro h1 _; omega
    | succ m ih =>
      intro h1 h2
      by_cases e : m = lb f k
      · subst e
        rw [pl, if_pos (bd_trans h (lb_bd f k))]
      · rw [pl, if_neg, ih (by omega) (by omega)]
        intro hb
        have := lb_max f (bd_inner h hb (by omega)) (by omega)
        omega
  exact key k (by omega) (Nat.le_refl _)
theorem pl_mem {f : Nat → α} {n : Nat} : ∀ {k d : Nat}, k ≤ n → (d ∈ pl f n k ↔ ∃ m, m < k ∧ d = n - m ∧ Bd f n m) := by
  intro k
  induction k with
  | zero => intro d _; simp [pl]
  | succ k ih =>
    intro d hk
    rw [pl]
    split
    · rename_i hb
      rw [List.mem_cons, ih (by omega)]
      constructor
      · rintro (rfl | ⟨m, h1, h2, h3⟩)
        · exact ⟨k, by omega, rfl, hb⟩
        · exact ⟨m, by omega, h2, h3⟩
      · rintro ⟨m, h1, h2, h3⟩
        by_cases e : m = k
        · subst e; exact .inl h2
        · exact .inr ⟨m, by omega, h2, h3⟩
    · rename_i hb
      rw [ih (by omega)]
      constructor
      · rintro ⟨m, h1, h2, h3⟩; exact ⟨m, by omega, h2, h3⟩
      · rintro ⟨m, h1, h2, h3⟩
        by_cases e : m = k
        · subst e; exact absurd h3 hb
        · exact ⟨m, by omega, h2, h3⟩
theorem pl_len (f : Nat → α) (n k : Nat) : (pl f n k).length ≤ k := by
  induction k with
  | zero => simp [pl]
  | succ k ih =>
    rw [pl]
    split
    · rw [List.length_cons]; omega
    · omega
/-- d is in the list of all periods just if it is one. -/
theorem mem_periods {f : Nat → α} {n d : Nat} : d ∈ pl f n n ↔ (1 ≤ d ∧ d ≤ n ∧ Per f n d) := by
  rw [pl_mem (Nat.le_refl _)]
  constructor
  · rintro ⟨m, h1, rfl, h3⟩
    exact ⟨by omega, by omega, (bd_per (by omega)).1 h3⟩
  · rintro ⟨h1, h2, h3⟩
    refine ⟨n - d, by omega, by omega, (bd_per (by omega)).2 ?_⟩
    rwa [show n - (n - d) = d by omega]
end

/-- d is a period that divides. -/
def Rt (f : Nat → α) (n d : Nat) : Prop := 0 < d ∧ d ∣ n ∧ Per f n d
/-- d is the length of the root. -/
def Root (f : Nat → α) (n d : Nat) : Prop := Rt f n d ∧ ∀ e, Rt f n e → d ≤ e
theorem Root.unique {f : Nat → α} {n d e : Nat} (h : Root f n d) (k : Root f n e) : d = e :=
  Nat.le_antisymm (h.2 e k.1) (k.2 d h.1)
theorem Root.pos {f : Nat → α} {n d : Nat} (h : Root f n d) : 0 < d := h.1.1
theorem Root.le {f : Nat → α} {n d : Nat} (h : Root f n d) (hn : 0 < n) : d ≤ n := Nat.le_of_dvd hn h.1.2.1
theorem per_self (f : Nat → α) (n : Nat) : Per f n n := fun i hi => by omega
theorem rt_self (f : Nat → α) {n : Nat} (hn : 0 < n) : Rt f n n := ⟨hn, Nat.dvd_refl n, per_self f n⟩
theorem rt_gcd {f : Nat → α} {n d e : Nat} (hn : 0 < n) (h : Rt f n d) (k : Rt f n e) : Rt f n (Nat.gcd d e) := by
  refine ⟨Nat.gcd_pos_of_pos_left _ h.1, Nat.dvd_trans (Nat.gcd_dvd_left d e) h.2.1, ?_⟩
  have hd := Nat.le_of_dvd hn h.2.1
  have he := Nat.le_of_dvd hn k.2.1
  by_cases h1 : d = n
  · subst h1
    rw [Nat.gcd_eq_right k.2.1]; exact k.2.2
  by_cases h2 : e = n
  · subst h2
    rw [Nat.gcd_eq_left h.2.1]; exact h.2.2
  · obtain ⟨a, rfl⟩ := h.2.1
    obtain ⟨b, hb⟩ := k.2.1
    have ha2 : 2 ≤ a := by
      rcases a with _ | _ | a
      · simp at hn
      · simp at h1
      · omega
    have hb2 : 2 ≤ b := by
      rcases b with _ | _ | b
      · rw [Nat.mul_zero] at hb; omega
      · rw [Nat.zero_add, Nat.mul_one] at hb; omega
      · omega
    have h3 : d * 2 ≤ d * a := Nat.mul_le_mul_left d ha2
    have h4 : e * 2 ≤ e * b := Nat.mul_le_mul_left e hb2
    exact fine (d + e) d e (d * a) (Nat.le_refl _) h.1 k.1 h.2.2 k.2.2 (by omega)
theorem root_exists (f : Nat → α) {n : Nat} (hn : 0 < n) : ∃ d, Root f n d := by
  have key : ∀ m, ∀ e, e ≤ m → Rt f n e → ∃ d, Root f n d := by
    intro m
    induction m with
    | zero => intro e he h; have := h.1; omega
    | succ m ih =>
      intro e he h
      by_cases hx : ∃ e', Rt f n e' ∧ e' < e
      · obtain ⟨e', h1, h2⟩ := hx
        exact ih e' (by omega) h1
      · exact ⟨e, h, fun e' he' => by
          rcases Nat.lt_or_ge e' e with hlt | hge
          · exact absurd ⟨e', he', hlt⟩ hx
          · exact hge⟩
  exact key n n (Nat.le_refl _) (rt_self f hn)
theorem Root.dvd {f : Nat → α} {n d e : Nat} (hn : 0 < n) (h : Root f n d) (k : Rt f n e) : d ∣ e := by
  have h1 := h.2 _ (rt_gcd hn h.1 k)
  have h2 : Nat.gcd d e ≤ d := Nat.gcd_le_left _ h.1.1
  have h3 : Nat.gcd d e = d := by omega
  rw [← h3]; exact Nat.gcd_dvd_right d e
/-- The least period, if it divides; else the whole. -/
theorem root_least [DecidableEq α] {f : Nat → α} {n : Nat} (hn : 0 < n) :
    Root f n (if n % (n - lb f n) = 0 then n - lb f n else n) := by
  have hl := lb_lt f hn
  have hP : Per f n (n - lb f n) := (bd_per (by omega)).1 (lb_bd f n)
  have least : ∀ e, 0 < e → e ≤ n → Per f n e → n - lb f n ≤ e := by
    intro e h0 hle hp
    have := lb_max f (i := n) (j := n - e) ((bd_per (by omega)).2 (by rwa [show n - (n - e) = e by omega])) (by omega)
    omega
  split
  · rename_i hm
    refine ⟨⟨by omega, Nat.dvd_of_mod_eq_zero hm, hP⟩, fun e he => least e he.1 (Nat.le_of_dvd hn he.2.1) he.2.2⟩
  · rename_i hm
    refine ⟨rt_self f hn, fun e he => ?_⟩
    have hen := Nat.le_of_dvd hn he.2.1
    by_cases hlt : e < n
    · exfalso
      have hle := least e he.1 hen he.2.2
      obtain ⟨a, ha⟩ := he.2.1
      have ha2 : 2 ≤ a := by
        rcases a with _ | _ | a
        · rw [Nat.mul_zero] at ha; omega
        · rw [Nat.zero_add, Nat.mul_one] at ha; omega
        · omega
      have h3 : e * 2 ≤ e * a := Nat.mul_le_mul_left e ha2
      have hg := fine (f := f) _ (n - lb f n) e n (Nat.le_refl _) (by omega) he.1 hP he.2.2 (by omega)
      have hgle : Nat.gcd (n - lb f n) e ≤ n - lb f n := Nat.gcd_le_left _ (by omega)
      have hgpos : 0 < Nat.gcd (n - lb f n) e := Nat.gcd_pos_of_pos_left _ (by omega)
      have h5 := least _ hgpos (by omega) hg
      have h6 : Nat.gcd (n - lb f n) e = n - lb f n := by omega
      have h7 : (n - lb f n) ∣ e := by
        have := Nat.gcd_dvd_right (n - lb f n) e
        rwa [h6] at this
      exact hm (Nat.mod_eq_zero_of_dvd (Nat.dvd_trans h7 he.2.1))
    · omega
end Wm
end Go.Proofs.Ytgkagigagcamoaa
