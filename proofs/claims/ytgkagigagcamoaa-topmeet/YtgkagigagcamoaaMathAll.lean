/-
The plain mathematics of these proofs, text by text. No program is named here.
-/

/-
Plain mathematics on words: borders, periods, Fine and Wilf, roots. No program is named here.
-/
namespace Go.Proofs.Ytgkagigagcamoaa
namespace Wm
variable {α : Type}

/-- 'd' is a period of the first n values of f. -/
def Per (f : Nat → α) (n d : Nat) : Prop := ∀ i, i + d < n → f i = f (i + d)
/-- The first k of the first i values of f are also the last k of them. -/
def Bd (f : Nat → α) (i k : Nat) : Prop := k ≤ i ∧ ∀ t, t < k → f t = f (i - k + t)

theorem Per.mod {f : Nat → α} {n d : Nat} (h : Per f n d) : ∀ i, i < n → f i = f (i % d) := by
  intro i
  induction i using Nat.strongRecOn with
  | ind i ih =>
    intro hi
    by_cases hlt : i < d
    · rw [Nat.mod_eq_of_lt hlt]
    · by_cases h0 : d = 0
      · subst h0; simp
      · have h1 := h (i - d) (by omega)
        have h2 := ih (i - d) (by omega) (by omega)
        rw [show i - d + d = i by omega] at h1
        rw [← h1, h2, Nat.mod_eq_sub_mod (a := i) (by omega)]
theorem Per.of_mod {f : Nat → α} {n d : Nat} (h : ∀ i, i < n → f i = f (i % d)) : Per f n d := by
  intro i hi
  rw [h i (by omega), h (i + d) hi, Nat.add_mod_right]
theorem Per.less {f : Nat → α} {n m d : Nat} (h : Per f n d) (hm : m ≤ n) : Per f m d := fun i hi => h i (by omega)

/-- FINE, WILF. -/
theorem fine {f : Nat → α} : ∀ (s p q n : Nat), p + q ≤ s → 0 < p → 0 < q → Per f n p → Per f n q → p + q ≤ n + Nat.gcd p q → Per f n (Nat.gcd p q) := by
  intro s
  induction s with
  | zero => intro p q n h hp hq; omega
  | succ s ih =>
    have main : ∀ p q n, p + q ≤ s + 1 → 0 < p → 0 < q → q < p → Per f n p → Per f n q → p + q ≤ n + Nat.gcd p q → Per f n (Nat.gcd p q) := by
      intro p q n hs hp hq hlt P Q hn
      have hg : Nat.gcd (p - q) q = Nat.gcd p q := Nat.gcd_sub_self_left (by omega)
      have hgp : Nat.gcd p q ≤ p - q := by
        rw [← hg]; exact Nat.gcd_le_left _ (by omega)
      have hgq : Nat.gcd p q ∣ q := Nat.gcd_dvd_right p q
      have P1 : Per f (n - q) (p - q) := by
        intro i hi
        have a := P i (by omega)
        have b := Q (i + (p - q)) (by omega)
        rw [show i + (p - q) + q = i + p by omega] at b
        rw [a, b]
      have Q1 : Per f (n - q) q := Q.less (by omega)
      have G : Per f (n - q) (Nat.gcd p q) := by
        have := ih (p - q) q (n - q) (by omega) (by omega) hq P1 Q1 (by rw [hg]; omega)
        rwa [hg] at this
      apply Per.of_mod
      intro i hi
      have hmq : i % q < q := Nat.mod_lt _ hq
      rw [Q.mod i hi, G.mod (i % q) (by omega), Nat.mod_mod_of_dvd _ hgq]
    intro p q n hs hp hq P Q hn
    rcases Nat.lt_trichotomy q p with h | h | h
    · exact main p q n hs hp hq h P Q hn
    · subst h; rw [Nat.gcd_self]; exact P
    · rw [Nat.gcd_comm] at hn ⊢
      exact main q p n (by omega) hq hp h Q P (by omega)

theorem bd_per {f : Nat → α} {n k : Nat} (hk : k ≤ n) : Bd f n k ↔ Per f n (n - k) := by
  constructor
  · intro h i hi; rw [h.2 i (by omega), Nat.add_comm]
  · intro h; refine ⟨hk, fun t ht => ?_⟩; rw [h t (by omega), Nat.add_comm]
theorem bd_zero (f : Nat → α) (n : Nat) : Bd f n 0 := ⟨Nat.zero_le _, fun t ht => by omega⟩
theorem bd_self (f : Nat → α) (n : Nat) : Bd f n n := ⟨Nat.le_refl _, fun t _ => by rw [Nat.sub_self, Nat.zero_add]⟩
/-- A border of a border. -/
theorem bd_trans {f : Nat → α} {n k m : Nat} (h : Bd f n k) (h' : Bd f k m) : Bd f n m := by
  refine ⟨Nat.le_trans h'.1 h.1, fun t ht => ?_⟩
  have h1 := h.1; have h2 := h'.1
  rw [h'.2 t ht, h.2 (k - m + t) (by omega)]
  congr 1; omega
theorem bd_inner {f : Nat → α} {n k m : Nat} (h : Bd f n k) (h' : Bd f n m) (hm : m ≤ k) : Bd f k m := by
  refine ⟨hm, fun t ht => ?_⟩
  have h1 := h.1; have h2 := h'.1
  rw [h'.2 t ht, h.2 (k - m + t) (by omega)]
  congr 1; omega
theorem bd_succ {f : Nat → α} {i k : Nat} : Bd f (i + 1) (k + 1) ↔ (Bd f i k ∧ f k = f i) := by
  constructor
  · intro h
    have h1 := h.1
    refine ⟨⟨by omega, fun t ht => ?_⟩, ?_⟩
    · rw [h.2 t (by omega)]; congr 1; omega
    · rw [h.2 k (by omega)]; congr 1; omega
  · rintro ⟨h, e⟩
    have h1 := h.1
    refine ⟨by omega, fun t ht => ?_⟩
    by_cases htk : t = k
    · subst htk; rw [e]; congr 1; omega
    · rw [h.2 t (by omega)]; congr 1; omega

instance [DecidableEq α] (f : Nat → α) (i k : Nat) : Decidable (Bd f i k) := by unfold Bd; infer_instance

/-- The greatest border of the first i values that has at most k. -/
def down [DecidableEq α] (f : Nat → α) (i : Nat) : Nat → Nat
  | 0 => 0
  | k + 1 => if Bd f i (k + 1) then k + 1 else down f i k
/-- The longest border of the first i values, less than i. -/
def lb [DecidableEq α] (f : Nat → α) (i : Nat) : Nat := down f i (i - 1)

section
variable [DecidableEq α]
theorem down_le (f : Nat → α) (i k : Nat) : down f i k ≤ k := by
  induction k with
  | zero => exact Nat.le_refl _
  | succ k ih => unfold down; split <;> omega
theorem down_bd (f : Nat → α) (i k : Nat) : Bd f i (down f i k) := by
  induction k with
  | zero => exact bd_zero f i
  | succ k ih => unfold down; split <;> assumption
theorem down_max (f : Nat → α) (i : Nat) : ∀ k j, j ≤ k → Bd f i j → j ≤ down f i k := by
  intro k
  induction k with
  | zero => intro j hj _; omega
  | succ k ih =>
    intro j hj h
    unfold down
    split
    · exact hj
    · rename_i hn
      by_cases e : j = k + 1
      · subst e; exact absurd h hn
      · exact ih j (by omega) h
theorem lb_lt (f : Nat → α) {i : Nat} (hi : 0 < i) : lb f i < i := by
  have := down_le f i (i - 1); unfold lb; omega
theorem lb_bd (f : Nat → α) (i : Nat) : Bd f i (lb f i) := down_bd f i _
theorem lb_max (f : Nat → α) {i j : Nat} (h : Bd f i j) (hj : j < i) : j ≤ lb f i := down_max f i _ _ (by omega) h
theorem lb_one (f : Nat → α) : lb f 1 = 0 := by have := lb_lt f (i := 1) (by omega); omega
theorem lb_unique (f : Nat → α) {i k : Nat} (hk : k < i) (h : Bd f i k) (hm : ∀ j, j < i → Bd f i j → j ≤ k) : lb f i = k := by
  have a := lb_max f h hk
  have b := hm _ (lb_lt f (by omega)) (lb_bd f i)
  omega

/-- What the inner loop of the failure function keeps. -/
def Kmp (f : Nat → α) (i k : Nat) : Prop := k < i ∧ Bd f i k ∧ ∀ j, j < i → Bd f (i + 1) (j + 1) → j ≤ k
theorem kmp_start (f : Nat → α) {i : Nat} (hi : 0 < i) : Kmp f i (lb f i) :=
  ⟨lb_lt f hi, lb_bd f i, fun _ hj h => lb_max f (bd_succ.1 h).1 hj⟩
theorem kmp_down {f : Nat → α} {i k : Nat} (h : Kmp f i k) (hk : 0 < k) (hne : f k ≠ f i) : Kmp f i (lb f k) := by
  have hl := lb_lt f hk
  have h1 := h.1
  refine ⟨by omega, bd_trans h.2.1 (lb_bd f k), fun j hj hb => ?_⟩
  have hjk := h.2.2 j hj hb
  have hjne : j ≠ k := fun e => hne (by rw [← e]; exact (bd_succ.1 hb).2)
  exact lb_max f (bd_inner h.2.1 (bd_succ.1 hb).1 hjk) (by omega)
theorem kmp_hit {f : Nat → α} {i k : Nat} (h : Kmp f i k) (e : f k = f i) : lb f (i + 1) = k + 1 := by
  have h1 := h.1
  refine lb_unique f (by omega) (bd_succ.2 ⟨h.2.1, e⟩) fun j hj hb => ?_
  cases j with
  | zero => omega
  | succ j => have := h.2.2 j (by omega) hb; omega
theorem kmp_miss {f : Nat → α} {i : Nat} (h : Kmp f i 0) (hne : f 0 ≠ f i) : lb f (i + 1) = 0 := by
  refine lb_unique f (by omega) (bd_zero f _) fun j hj hb => ?_
  cases j with
  | zero => omega
  | succ j =>
    have := h.2.2 j (by omega) hb
    have e : j = 0 := by omega
    subst e
    exact absurd (bd_succ.1 hb).2 hne

/-- The periods n - m for the borders m below k, the greatest border first. -/
def pl (f : Nat → α) (n : Nat) : Nat → List Nat
  | 0 => []
  | k + 1 => if Bd f n k then (n - k) :: pl f n k else pl f n k
theorem pl_jump {f : Nat → α} {n k : Nat} (h : Bd f n k) (hk : 0 < k) : pl f n k = (n - lb f k) :: pl f n (lb f k) := by
  have hl := lb_lt f hk
  have key : ∀ m, lb f k + 1 ≤ m → m ≤ k → pl f n m = (n - lb f k) :: pl f n (lb f k) := by
    intro m
    induction m with
    | zero => intro h1 _; omega
    | succ m ih =>
      intro h1 h2
      by_cases e : m = lb f k
      · subst e
        rw [pl, if_pos (bd_trans h (lb_bd f k))]
      · rw [pl, if_neg, ih (by omega) (by omega)]
        intro hb
        have := lb_max f (bd_inner h hb (by omega)) (by omega)
        omega
  exact key k (by omega) (Nat.le_refl _)
theorem pl_mem {f : Nat → α} {n : Nat} : ∀ {k d : Nat}, k ≤ n → (d ∈ pl f n k ↔ ∃ m, m < k ∧ d = n - m ∧ Bd f n m) := by
  intro k
  induction k with
  | zero => intro d _; simp [pl]
  | succ k ih =>
    intro d hk
    rw [pl]
    split
    · rename_i hb
      rw [List.mem_cons, ih (by omega)]
      constructor
      · rintro (rfl | ⟨m, h1, h2, h3⟩)
        · exact ⟨k, by omega, rfl, hb⟩
        · exact ⟨m, by omega, h2, h3⟩
      · rintro ⟨m, h1, h2, h3⟩
        by_cases e : m = k
        · subst e; exact .inl h2
        · exact .inr ⟨m, by omega, h2, h3⟩
    · rename_i hb
      rw [ih (by omega)]
      constructor
      · rintro ⟨m, h1, h2, h3⟩; exact ⟨m, by omega, h2, h3⟩
      · rintro ⟨m, h1, h2, h3⟩
        by_cases e : m = k
        · subst e; exact absurd h3 hb
        · exact ⟨m, by omega, h2, h3⟩
theorem pl_len (f : Nat → α) (n k : Nat) : (pl f n k).length ≤ k := by
  induction k with
  | zero => simp [pl]
  | succ k ih =>
    rw [pl]
    split
    · rw [List.length_cons]; omega
    · omega
/-- d is in the list of all periods just if it is one. -/
theorem mem_periods {f : Nat → α} {n d : Nat} : d ∈ pl f n n ↔ (1 ≤ d ∧ d ≤ n ∧ Per f n d) := by
  rw [pl_mem (Nat.le_refl _)]
  constructor
  · rintro ⟨m, h1, rfl, h3⟩
    exact ⟨by omega, by omega, (bd_per (by omega)).1 h3⟩
  · rintro ⟨h1, h2, h3⟩
    refine ⟨n - d, by omega, by omega, (bd_per (by omega)).2 ?_⟩
    rwa [show n - (n - d) = d by omega]
end

/-- d is a period that divides. -/
def Rt (f : Nat → α) (n d : Nat) : Prop := 0 < d ∧ d ∣ n ∧ Per f n d
/-- d is the length of the root. -/
def Root (f : Nat → α) (n d : Nat) : Prop := Rt f n d ∧ ∀ e, Rt f n e → d ≤ e
theorem Root.unique {f : Nat → α} {n d e : Nat} (h : Root f n d) (k : Root f n e) : d = e :=
  Nat.le_antisymm (h.2 e k.1) (k.2 d h.1)
theorem Root.pos {f : Nat → α} {n d : Nat} (h : Root f n d) : 0 < d := h.1.1
theorem Root.le {f : Nat → α} {n d : Nat} (h : Root f n d) (hn : 0 < n) : d ≤ n := Nat.le_of_dvd hn h.1.2.1
theorem per_self (f : Nat → α) (n : Nat) : Per f n n := fun i hi => by omega
theorem rt_self (f : Nat → α) {n : Nat} (hn : 0 < n) : Rt f n n := ⟨hn, Nat.dvd_refl n, per_self f n⟩
theorem rt_gcd {f : Nat → α} {n d e : Nat} (hn : 0 < n) (h : Rt f n d) (k : Rt f n e) : Rt f n (Nat.gcd d e) := by
  refine ⟨Nat.gcd_pos_of_pos_left _ h.1, Nat.dvd_trans (Nat.gcd_dvd_left d e) h.2.1, ?_⟩
  have hd := Nat.le_of_dvd hn h.2.1
  have he := Nat.le_of_dvd hn k.2.1
  by_cases h1 : d = n
  · subst h1
    rw [Nat.gcd_eq_right k.2.1]; exact k.2.2
  by_cases h2 : e = n
  · subst h2
    rw [Nat.gcd_eq_left h.2.1]; exact h.2.2
  · obtain ⟨a, rfl⟩ := h.2.1
    obtain ⟨b, hb⟩ := k.2.1
    have ha2 : 2 ≤ a := by
      rcases a with _ | _ | a
      · simp at hn
      · simp at h1
      · omega
    have hb2 : 2 ≤ b := by
      rcases b with _ | _ | b
      · rw [Nat.mul_zero] at hb; omega
      · rw [Nat.zero_add, Nat.mul_one] at hb; omega
      · omega
    have h3 : d * 2 ≤ d * a := Nat.mul_le_mul_left d ha2
    have h4 : e * 2 ≤ e * b := Nat.mul_le_mul_left e hb2
    exact fine (d + e) d e (d * a) (Nat.le_refl _) h.1 k.1 h.2.2 k.2.2 (by omega)
theorem root_exists (f : Nat → α) {n : Nat} (hn : 0 < n) : ∃ d, Root f n d := by
  have key : ∀ m, ∀ e, e ≤ m → Rt f n e → ∃ d, Root f n d := by
    intro m
    induction m with
    | zero => intro e he h; have := h.1; omega
    | succ m ih =>
      intro e he h
      by_cases hx : ∃ e', Rt f n e' ∧ e' < e
      · obtain ⟨e', h1, h2⟩ := hx
        exact ih e' (by omega) h1
      · exact ⟨e, h, fun e' he' => by
          rcases Nat.lt_or_ge e' e with hlt | hge
          · exact absurd ⟨e', he', hlt⟩ hx
          · exact hge⟩
  exact key n n (Nat.le_refl _) (rt_self f hn)
theorem Root.dvd {f : Nat → α} {n d e : Nat} (hn : 0 < n) (h : Root f n d) (k : Rt f n e) : d ∣ e := by
  have h1 := h.2 _ (rt_gcd hn h.1 k)
  have h2 : Nat.gcd d e ≤ d := Nat.gcd_le_left _ h.1.1
  have h3 : Nat.gcd d e = d := by omega
  rw [← h3]; exact Nat.gcd_dvd_right d e
/-- The least period, if it divides; else the whole. -/
theorem root_least [DecidableEq α] {f : Nat → α} {n : Nat} (hn : 0 < n) :
    Root f n (if n % (n - lb f n) = 0 then n - lb f n else n) := by
  have hl := lb_lt f hn
  have hP : Per f n (n - lb f n) := (bd_per (by omega)).1 (lb_bd f n)
  have least : ∀ e, 0 < e → e ≤ n → Per f n e → n - lb f n ≤ e := by
    intro e h0 hle hp
    have := lb_max f (i := n) (j := n - e) ((bd_per (by omega)).2 (by rwa [show n - (n - e) = e by omega])) (by omega)
    omega
  split
  · rename_i hm
    refine ⟨⟨by omega, Nat.dvd_of_mod_eq_zero hm, hP⟩, fun e he => least e he.1 (Nat.le_of_dvd hn he.2.1) he.2.2⟩
  · rename_i hm
    refine ⟨rt_self f hn, fun e he => ?_⟩
    have hen := Nat.le_of_dvd hn he.2.1
    by_cases hlt : e < n
    · exfalso
      have hle := least e he.1 hen he.2.2
      obtain ⟨a, ha⟩ := he.2.1
      have ha2 : 2 ≤ a := by
        rcases a with _ | _ | a
        · rw [Nat.mul_zero] at ha; omega
        · rw [Nat.zero_add, Nat.mul_one] at ha; omega
        · omega
      have h3 : e * 2 ≤ e * a := Nat.mul_le_mul_left e ha2
      have hg := fine (f := f) _ (n - lb f n) e n (Nat.le_refl _) (by omega) he.1 hP he.2.2 (by omega)
      have hgle : Nat.gcd (n - lb f n) e ≤ n - lb f n := Nat.gcd_le_left _ (by omega)
      have hgpos : 0 < Nat.gcd (n - lb f n) e := Nat.gcd_pos_of_pos_left _ (by omega)
      have h5 := least _ hgpos (by omega) hg
      have h6 : Nat.gcd (n - lb f n) e = n - lb f n := by omega
      have h7 : (n - lb f n) ∣ e := by
        have := Nat.gcd_dvd_right (n - lb f n) e
        rwa [h6] at this
      exact hm (Nat.mod_eq_zero_of_dvd (Nat.dvd_trans h7 he.2.1))
    · omega
end Wm
end Go.Proofs.Ytgkagigagcamoaa


/-
Plain mathematics on roots: words that are the same in either order; powers; turns; from behind.
-/
namespace Go.Proofs.Ytgkagigagcamoaa
namespace Wm
variable {α : Type}

/-- The first la values of f, then those of h. -/
def cat (f : Nat → α) (la : Nat) (h : Nat → α) (i : Nat) : α := if i < la then f i else h (i - la)
theorem cat_lt {f h : Nat → α} {la i : Nat} (hi : i < la) : cat f la h i = f i := if_pos hi
theorem cat_ge {f h : Nat → α} {la i : Nat} (hi : la ≤ i) : cat f la h i = h (i - la) := if_neg (by omega)

theorem Per.congr {f h : Nat → α} {n d : Nat} (e : ∀ i, i < n → f i = h i) (p : Per f n d) : Per h n d := by
  intro i hi
  rw [← e i (by omega), ← e (i + d) hi, p i hi]
theorem Rt.congr {f h : Nat → α} {n d : Nat} (e : ∀ i, i < n → f i = h i) (p : Rt f n d) : Rt h n d := ⟨p.1, p.2.1, p.2.2.congr e⟩
/-- A period that divides a period's beginning goes through. -/
theorem lift_per {f : Nat → α} {n g r : Nat} (hg : 0 < g) (_ : g ≤ n) (p : Per f n g) (q : Per f g r) (hd : r ∣ g) : Per f n r := by
  apply Per.of_mod
  intro i hi
  have := Nat.mod_lt i hg
  rw [p.mod i hi, q.mod (i % g) this, Nat.mod_mod_of_dvd _ hd]

theorem comm_root {f h : Nat → α} {la lb ra rb : Nat} (ha : 0 < la) (hb : 0 < lb) (e : ∀ i, i < la + lb → cat f la h i = cat h lb f i) (A : Root f la ra) (B : Root h lb rb) :
    ra = rb ∧ ∀ i, i < ra → f i = h i := by
  have P1 : Per (cat f la h) (la + lb) la := by
    intro i hi
    rw [cat_ge (i := i + la) (by omega), show i + la - la = i by omega, e i (by omega), cat_lt (by omega)]
  have P2 : Per (cat f la h) (la + lb) lb := by
    intro i hi
    rw [cat_lt (i := i) (by omega), e (i + lb) (by omega), cat_ge (by omega), show i + lb - lb = i by omega]
  have hgp : 0 < Nat.gcd la lb := Nat.gcd_pos_of_pos_left _ ha
  have G : Per (cat f la h) (la + lb) (Nat.gcd la lb) := fine _ la lb _ (Nat.le_refl _) ha hb P1 P2 (by omega)
  have ef : ∀ i, i < la → cat f la h i = f i := fun i hi => cat_lt hi
  have eh : ∀ i, i < lb → cat f la h i = h i := fun i hi => by rw [e i (by omega), cat_lt hi]
  have Ga : Rt f la (Nat.gcd la lb) := ⟨hgp, Nat.gcd_dvd_left _ _, (G.less (by omega)).congr ef⟩
  have Gb : Rt h lb (Nat.gcd la lb) := ⟨hgp, Nat.gcd_dvd_right _ _, (G.less (by omega)).congr eh⟩
  have hla : Nat.gcd la lb ≤ la := Nat.gcd_le_left _ ha
  have hlb : Nat.gcd la lb ≤ lb := Nat.gcd_le_right _ hb
  have ea : ∀ i, i < Nat.gcd la lb → f i = h i := fun i hi => by rw [← ef i (by omega), eh i (by omega)]
  have da := A.dvd ha Ga
  have db := B.dvd hb Gb
  have Ba : Rt h lb ra := ⟨A.1.1, Nat.dvd_trans da Gb.2.1, lift_per hgp hlb Gb.2.2 ((A.1.2.2.less hla).congr ea) da⟩
  have Ab : Rt f la rb := ⟨B.1.1, Nat.dvd_trans db Ga.2.1, lift_per hgp hla Ga.2.2 ((B.1.2.2.less hlb).congr fun i hi => (ea i hi).symm) db⟩
  have h1 := A.2 rb Ab
  have h2 := B.2 ra Ba
  have h3 := Nat.le_of_dvd hgp da
  exact ⟨by omega, fun i hi => ea i (by omega)⟩

theorem root_comm {f h : Nat → α} {la lb r : Nat} (A : Rt f la r) (B : Rt h lb r) (e : ∀ i, i < r → f i = h i) : ∀ i, i < la + lb → cat f la h i = cat h lb f i := by
  have hf : ∀ i, i < la → f i = f (i % r) := A.2.2.mod
  have hh : ∀ i, i < lb → h i = f (i % r) := fun i hi => by rw [B.2.2.mod i hi, ← e _ (Nat.mod_lt _ A.1)]
  have key : ∀ (x y : Nat → α) (n m : Nat), (∀ i, i < n → x i = f (i % r)) → (∀ i, i < m → y i = f (i % r)) → r ∣ n → ∀ i, i < n + m → cat x n y i = f (i % r) := by
    intro x y n m hx hy hd i hi
    by_cases hlt : i < n
    · rw [cat_lt hlt, hx i hlt]
    · rw [cat_ge (by omega), hy _ (by omega)]
      obtain ⟨c, rfl⟩ := hd
      congr 1
      rw [← Nat.add_mul_mod_self_left (i - r * c) r c]
      congr 1
      omega
  intro i hi
  rw [key f h la lb hf hh A.2.1 i hi, key h f lb la hh hf B.2.1 i (by omega)]

/-- The root of a root is itself. -/
theorem root_root {f : Nat → α} {n r : Nat} (hn : 0 < n) (A : Root f n r) : Root f r r := by
  refine ⟨rt_self f A.1.1, fun e he => ?_⟩
  exact A.2 e ⟨he.1, Nat.dvd_trans he.2.1 A.1.2.1, lift_per A.1.1 (A.le hn) A.1.2.2 he.2.2 he.2.1⟩
/-- Powers have the root. -/
theorem root_power {f h : Nat → α} {n r c : Nat} (hn : 0 < n) (hc : 0 < c) (A : Root f n r) (e : ∀ i, i < c * n → h i = f (i % n)) : Root h (c * n) r := by
  have hcn : n ≤ c * n := Nat.le_mul_of_pos_left n hc
  have e0 : ∀ i, i < n → f i = h i := fun i hi => by rw [e i (by omega), Nat.mod_eq_of_lt hi]
  have P : Per h (c * n) n := Per.of_mod fun i hi => by
    have := Nat.mod_lt i hn
    rw [e i hi, e0 _ this]
  refine ⟨⟨A.1.1, Nat.dvd_trans A.1.2.1 ⟨c, Nat.mul_comm c n⟩, lift_per hn hcn P (A.1.2.2.congr e0) A.1.2.1⟩, fun d hd => ?_⟩
  have G := rt_gcd (by omega) hd ⟨hn, ⟨c, Nat.mul_comm c n⟩, P⟩
  have hg : Nat.gcd d n ≤ d := Nat.gcd_le_left _ hd.1
  have := A.2 (Nat.gcd d n) ⟨G.1, Nat.gcd_dvd_right _ _, (G.2.2.less hcn).congr fun i hi => (e0 i hi).symm⟩
  omega

/-- Turned by k. -/
theorem rt_turn {f h : Nat → α} {n d k : Nat} (hn : 0 < n) (A : Rt f n d) (e : ∀ i, i < n → h i = f ((i + k) % n)) : Rt h n d := by
  refine ⟨A.1, A.2.1, fun i hi => ?_⟩
  rw [e i (by omega), e (i + d) hi]
  have h1 := Nat.mod_lt (i + k) hn
  have h2 := Nat.mod_lt (i + d + k) hn
  rw [A.2.2.mod _ h1, A.2.2.mod _ h2, Nat.mod_mod_of_dvd _ A.2.1, Nat.mod_mod_of_dvd _ A.2.1, show i + d + k = i + k + d by omega, Nat.add_mod_right]
theorem root_turn {f h : Nat → α} {n d k : Nat} (hn : 0 < n) (hk : k ≤ n) (A : Root f n d) (e : ∀ i, i < n → h i = f ((i + k) % n)) : Root h n d := by
  refine ⟨rt_turn hn A.1 e, fun d' h' => A.2 d' (rt_turn (k := n - k) hn h' fun i hi => ?_)⟩
  have h1 := Nat.mod_lt (i + (n - k)) hn
  rw [e _ h1, Nat.mod_add_mod, show i + (n - k) + k = i + n by omega, Nat.add_mod_right, Nat.mod_eq_of_lt hi]
/-- From behind. -/
theorem rt_back {f h : Nat → α} {n d : Nat} (A : Rt f n d) (e : ∀ i, i < n → h i = f (n - 1 - i)) : Rt h n d := by
  refine ⟨A.1, A.2.1, fun i hi => ?_⟩
  rw [e i (by omega), e (i + d) hi, A.2.2 (n - 1 - (i + d)) (by omega)]
  congr 1
  omega
theorem root_back {f h : Nat → α} {n d : Nat} (A : Root f n d) (e : ∀ i, i < n → h i = f (n - 1 - i)) : Root h n d := by
  refine ⟨rt_back A.1 e, fun d' h' => A.2 d' (rt_back h' fun i hi => ?_)⟩
  rw [e _ (by omega)]
  congr 1
  omega
end Wm
end Go.Proofs.Ytgkagigagcamoaa


/-
Plain mathematics of a stable sort: rows as functions of the place, exchanges, rotations, insertion, merging in place. No program is named here.
-/
namespace Go.Proofs.Ytgkagigagcamoaa
namespace St

/-- g' holds in [a, b) what g holds there, in some order; elsewhere it is g. -/
structure PI (a b : Nat) (g g' : Nat → Nat) : Prop where
  out : ∀ k, k < a ∨ b ≤ k → g' k = g k
  ins : ∀ k, a ≤ k → k < b → ∃ j, a ≤ j ∧ j < b ∧ g' k = g j
  inj : (∀ x y, g x = g y → x = y) → ∀ x y, g' x = g' y → x = y
theorem PI.refl (a b : Nat) (g : Nat → Nat) : PI a b g g := ⟨fun _ _ => rfl, fun k h1 h2 => ⟨k, h1, h2, rfl⟩, fun h => h⟩
theorem PI.trans {a b : Nat} {g h i : Nat → Nat} (p : PI a b g h) (q : PI a b h i) : PI a b g i := by
  refine ⟨fun k hk => (q.out k hk).trans (p.out k hk), fun k h1 h2 => ?_, fun hg => q.inj (p.inj hg)⟩
  obtain ⟨j, j1, j2, e⟩ := q.ins k h1 h2
  obtain ⟨l, l1, l2, e2⟩ := p.ins j j1 j2
  exact ⟨l, l1, l2, e.trans e2⟩
theorem PI.mono {a b c d : Nat} {g h : Nat → Nat} (p : PI a b g h) (h1 : c ≤ a) (h2 : b ≤ d) : PI c d g h := by
  refine ⟨fun k hk => p.out k (by omega), fun k k1 k2 => ?_, p.inj⟩
  by_cases hk : a ≤ k ∧ k < b
  · obtain ⟨j, j1, j2, e⟩ := p.ins k hk.1 hk.2
    exact ⟨j, by omega, by omega, e⟩
  · exact ⟨k, k1, k2, p.out k (by omega)⟩
theorem PI.of_idx {a b : Nat} (g : Nat → Nat) (f : Nat → Nat) (h1 : ∀ k, k < a ∨ b ≤ k → f k = k) (h2 : ∀ k, a ≤ k → k < b → a ≤ f k ∧ f k < b) (h3 : ∀ x y, f x = f y → x = y) : PI a b g (fun x => g (f x)) :=
  ⟨fun k hk => by show g (f k) = g k; rw [h1 k hk], fun k k1 k2 => ⟨f k, (h2 k k1 k2).1, (h2 k k1 k2).2, rfl⟩, fun hg x y e => h3 x y (hg _ _ e)⟩

/-- Two places exchanged. -/
def swI (i j x : Nat) : Nat := if x = i then j else if x = j then i else x
theorem swI_spec (i j x : Nat) : (x = i ∧ swI i j x = j) ∨ (x ≠ i ∧ x = j ∧ swI i j x = i) ∨ (x ≠ i ∧ x ≠ j ∧ swI i j x = x) := by
  unfold swI; split
  · omega
  · split <;> omega
/-- The value of place a stands at k, what was between one place before. -/
def mvI (a k x : Nat) : Nat := if a ≤ x ∧ x < k then x + 1 else if x = k then a else x
theorem mvI_spec (a k x : Nat) : (a ≤ x ∧ x < k ∧ mvI a k x = x + 1) ∨ (¬ (a ≤ x ∧ x < k) ∧ x = k ∧ mvI a k x = a) ∨ (¬ (a ≤ x ∧ x < k) ∧ x ≠ k ∧ mvI a k x = x) := by
  unfold mvI; split
  · omega
  · split <;> omega
/-- The value of place m stands at k, what was between one place behind. -/
def mrI (m k x : Nat) : Nat := if x = k then m else if k < x ∧ x ≤ m then x - 1 else x
theorem mrI_spec (m k x : Nat) : (x = k ∧ mrI m k x = m) ∨ (x ≠ k ∧ k < x ∧ x ≤ m ∧ mrI m k x = x - 1) ∨ (x ≠ k ∧ ¬ (k < x ∧ x ≤ m) ∧ mrI m k x = x) := by
  unfold mrI; split
  · omega
  · split <;> omega
/-- The places [s, m) and [m, e) exchanged. -/
def rotI (s m e x : Nat) : Nat := if x < s ∨ e ≤ x then x else if x < s + (e - m) then x + (m - s) else x - (e - m)
theorem rotI_spec (s m e x : Nat) : ((x < s ∨ e ≤ x) ∧ rotI s m e x = x) ∨ (s ≤ x ∧ x < e ∧ x < s + (e - m) ∧ rotI s m e x = x + (m - s)) ∨ (s ≤ x ∧ x < e ∧ s + (e - m) ≤ x ∧ rotI s m e x = x - (e - m)) := by
  unfold rotI; split
  · omega
  · split <;> omega
/-- The n places from a on and those from b on exchanged. -/
def srI (a b n x : Nat) : Nat := if a ≤ x ∧ x < a + n then x + (b - a) else if b ≤ x ∧ x < b + n then x - (b - a) else x
theorem srI_spec (a b n x : Nat) : (a ≤ x ∧ x < a + n ∧ srI a b n x = x + (b - a)) ∨ (¬ (a ≤ x ∧ x < a + n) ∧ b ≤ x ∧ x < b + n ∧ srI a b n x = x - (b - a)) ∨ (¬ (a ≤ x ∧ x < a + n) ∧ ¬ (b ≤ x ∧ x < b + n) ∧ srI a b n x = x) := by
  unfold srI; split
  · omega
  · split <;> omega

theorem sr_step (a b i : Nat) (h : a + i < b) (x : Nat) : srI a b i (swI (a + i) (b + i) x) = srI a b (i + 1) x := by
  have h1 := swI_spec (a + i) (b + i) x
  have h2 := srI_spec a b i (swI (a + i) (b + i) x)
  have h3 := srI_spec a b (i + 1) x
  omega
theorem sr_zero (a b x : Nat) : srI a b 0 x = x := by have := srI_spec a b 0 x; omega
theorem mv_step (a k : Nat) (h : a ≤ k) (x : Nat) : mvI a k (swI k (k + 1) x) = mvI a (k + 1) x := by
  have h1 := swI_spec k (k + 1) x
  have h2 := mvI_spec a k (swI k (k + 1) x)
  have h3 := mvI_spec a (k + 1) x
  omega
theorem mv_zero (a x : Nat) : mvI a a x = x := by have := mvI_spec a a x; omega
theorem mr_step (m k : Nat) (h : k + 1 ≤ m) (x : Nat) : mrI m (k + 1) (swI (k + 1) k x) = mrI m k x := by
  have h1 := swI_spec (k + 1) k x
  have h2 := mrI_spec m (k + 1) (swI (k + 1) k x)
  have h3 := mrI_spec m k x
  omega
theorem mr_zero (m x : Nat) : mrI m m x = x := by have := mrI_spec m m x; omega
/-- A step of the rotation, the left part longer. -/
theorem rot_left (m i j : Nat) (him : i ≤ m) (hij : j < i) (x : Nat) : srI (m - i) m j (rotI (m - (i - j)) m (m + j) x) = rotI (m - i) m (m + j) x := by
  have h1 := rotI_spec (m - (i - j)) m (m + j) x
  have h2 := srI_spec (m - i) m j (rotI (m - (i - j)) m (m + j) x)
  have h3 := rotI_spec (m - i) m (m + j) x
  omega
/-- .. the right part longer. -/
theorem rot_right (m i j : Nat) (him : i ≤ m) (hij : i < j) (x : Nat) : srI (m - i) (m + j - i) i (rotI (m - i) m (m + (j - i)) x) = rotI (m - i) m (m + j) x := by
  have h1 := rotI_spec (m - i) m (m + (j - i)) x
  have h2 := srI_spec (m - i) (m + j - i) i (rotI (m - i) m (m + (j - i)) x)
  have h3 := rotI_spec (m - i) m (m + j) x
  omega
theorem rot_last (m i : Nat) (him : i ≤ m) (x : Nat) : srI (m - i) m i x = rotI (m - i) m (m + i) x := by
  have h2 := srI_spec (m - i) m i x
  have h3 := rotI_spec (m - i) m (m + i) x
  omega

theorem PI.sw {a b i j : Nat} (g : Nat → Nat) (h1 : a ≤ i) (h2 : i < b) (h3 : a ≤ j) (h4 : j < b) : PI a b g (fun x => g (swI i j x)) := by
  refine PI.of_idx g _ (fun k hk => ?_) (fun k k1 k2 => ?_) (fun x y e => ?_)
  · have := swI_spec i j k; omega
  · have := swI_spec i j k; omega
  · have := swI_spec i j x; have := swI_spec i j y; omega
theorem PI.mv {a b k : Nat} (g : Nat → Nat) (h1 : a ≤ k) (h2 : k < b) : PI a b g (fun x => g (mvI a k x)) := by
  refine PI.of_idx g _ (fun x hx => ?_) (fun x k1 k2 => ?_) (fun x y e => ?_)
  · have := mvI_spec a k x; omega
  · have := mvI_spec a k x; omega
  · have := mvI_spec a k x; have := mvI_spec a k y; omega
theorem PI.mr {a b m k : Nat} (g : Nat → Nat) (h0 : a ≤ k) (h1 : k ≤ m) (h2 : m < b) : PI a b g (fun x => g (mrI m k x)) := by
  refine PI.of_idx g _ (fun x hx => ?_) (fun x k1 k2 => ?_) (fun x y e => ?_)
  · have := mrI_spec m k x; omega
  · have := mrI_spec m k x; omega
  · have := mrI_spec m k x; have := mrI_spec m k y; omega
theorem PI.rot {a b s m e : Nat} (g : Nat → Nat) (h0 : a ≤ s) (h1 : s ≤ m) (h2 : m ≤ e) (h3 : e ≤ b) : PI a b g (fun x => g (rotI s m e x)) := by
  refine PI.of_idx g _ (fun x hx => ?_) (fun x k1 k2 => ?_) (fun x y ee => ?_)
  · have := rotI_spec s m e x; omega
  · have := rotI_spec s m e x; omega
  · have := rotI_spec s m e x; have := rotI_spec s m e y; omega

/-- The order that a stable sort asks for: by 'lt', of two equals the earlier number first. -/
structure Ord (lt R : Nat → Nat → Prop) : Prop where
  tr : ∀ {x y z}, R x y → R y z → R x z
  yes : ∀ {x y}, x < y → lt y x → R y x
  no : ∀ {x y}, x < y → ¬ lt y x → R x y

def Srt (R : Nat → Nat → Prop) (a b : Nat) (g : Nat → Nat) : Prop := ∀ i j, a ≤ i → i < j → j < b → R (g i) (g j)
/-- What stands in [a, m) is earlier than what stands in [m, b). -/
def Erl (a m b : Nat) (g : Nat → Nat) : Prop := ∀ i j, a ≤ i → i < m → m ≤ j → j < b → g i < g j
variable {lt R : Nat → Nat → Prop}

/-- Insertion under way: the value v of place i has come down to j. -/
structure Ins (R : Nat → Nat → Prop) (a i j v : Nat) (h : Nat → Nat) : Prop where
  ord : ∀ x y, a ≤ x → x < y → y ≤ i → y ≠ j → R (h x) (h y)
  early : ∀ x, a ≤ x → x ≤ i → x ≠ j → h x < v
  at_ : h j = v
  ja : a ≤ j
  ji : j ≤ i
theorem Ins.start {a i : Nat} {h : Nat → Nat} (hai : a ≤ i) (hs : Srt R a i h) (he : Erl a i (i + 1) h) : Ins R a i i (h i) h :=
  ⟨fun x y h1 h2 h3 h4 => hs x y h1 h2 (by omega), fun x h1 h2 h3 => he x i h1 (by omega) (Nat.le_refl _) (by omega), rfl, hai, Nat.le_refl _⟩
theorem Ins.step {a i j v : Nat} {h : Nat → Nat} (O : Ord lt R) (p : Ins R a i (j + 1) v h) (hj : a ≤ j) (hl : lt v (h j)) : Ins R a i j v (fun x => h (swI (j + 1) j x)) := by
  have hji := p.ji
  have hv : R v (h j) := O.yes (p.early j hj (by omega) (by omega)) hl
  have e0 : ∀ x, x ≠ j → x ≠ j + 1 → swI (j + 1) j x = x := fun x h1 h2 => by have := swI_spec (j + 1) j x; omega
  have e1 : swI (j + 1) j j = j + 1 := by have := swI_spec (j + 1) j j; omega
  have e2 : swI (j + 1) j (j + 1) = j := by have := swI_spec (j + 1) j (j + 1); omega
  refine ⟨fun x y h1 h2 h3 h4 => ?_, fun x h1 h2 h3 => ?_, ?_, hj, by omega⟩
  · show R (h (swI (j + 1) j x)) (h (swI (j + 1) j y))
    by_cases hx : x = j
    · subst hx
      rw [e1, p.at_]
      by_cases hy : y = x + 1
      · subst hy; rw [e2]; exact hv
      · rw [e0 y (by omega) hy, ← p.at_]
        exact p.ord (x + 1) y (by omega) (by omega) h3 hy
    · by_cases hx1 : x = j + 1
      · subst hx1
        rw [e2, e0 y (by omega) (by omega)]
        exact p.ord j y hj (by omega) h3 (by omega)
      · rw [e0 x hx hx1]
        by_cases hy : y = j + 1
        · subst hy; rw [e2]
          exact p.ord x j h1 (by omega) (by omega) (by omega)
        · rw [e0 y h4 hy]
          exact p.ord x y h1 h2 h3 hy
  · show h (swI (j + 1) j x) < v
    by_cases hx1 : x = j + 1
    · subst hx1; rw [e2]; exact p.early j hj (by omega) (by omega)
    · rw [e0 x h3 hx1]; exact p.early x h1 h2 hx1
  · show h (swI (j + 1) j j) = v
    rw [e1]; exact p.at_
theorem Ins.low {a i v : Nat} {h : Nat → Nat} (p : Ins R a i a v h) : Srt R a (i + 1) h := fun x y h1 h2 h3 => p.ord x y h1 h2 (by omega) (by omega)
theorem Ins.done {a i j v : Nat} {h : Nat → Nat} (O : Ord lt R) (p : Ins R a i (j + 1) v h) (hj : a ≤ j) (hl : ¬ lt v (h j)) : Srt R a (i + 1) h := by
  have hji := p.ji
  have hv : R (h j) v := O.no (p.early j hj (by omega) (by omega)) hl
  intro x y h1 h2 h3
  by_cases hy : y = j + 1
  · subst hy
    rw [p.at_]
    by_cases hx : x = j
    · subst hx; exact hv
    · exact O.tr (p.ord x j h1 (by omega) (by omega) (by omega)) hv
  · exact p.ord x y h1 h2 (by omega) hy
theorem erl_of_inc {a i b : Nat} {g h : Nat → Nat} (hg : ∀ x y, a ≤ x → x < y → y < b → g x < g y) (hp : PI a i g h) : Erl a i b h := by
  intro x y h1 h2 h3 h4
  obtain ⟨k, k1, k2, e⟩ := hp.ins x h1 h2
  rw [e, hp.out y (.inr h3)]
  exact hg k y k1 (by omega) h4

/-- One value in front of a run. -/
theorem left_yes {a m b c : Nat} {g : Nat → Nat} (O : Ord lt R) (ham : a < m) (hs : Srt R m b g) (he : Erl a m b g) (h1 : m ≤ c) (h2 : c < b) (hl : lt (g c) (g a)) :
    ∀ x, m ≤ x → x < c + 1 → R (g x) (g a) := by
  intro x x1 x2
  have hc : R (g c) (g a) := O.yes (he a c (Nat.le_refl _) ham h1 h2) hl
  by_cases hx : x = c
  · subst hx; exact hc
  · exact O.tr (hs x c x1 (by omega) h2) hc
theorem left_no {a m b c : Nat} {g : Nat → Nat} (O : Ord lt R) (ham : a < m) (hs : Srt R m b g) (he : Erl a m b g) (h1 : m ≤ c) (h2 : c < b) (hl : ¬ lt (g c) (g a)) :
    ∀ x, c ≤ x → x < b → R (g a) (g x) := by
  intro x x1 x2
  have hc : R (g a) (g c) := O.no (he a c (Nat.le_refl _) ham h1 h2) hl
  by_cases hx : x = c
  · subst hx; exact hc
  · exact O.tr hc (hs c x h1 (by omega) x2)
theorem left_srt {a b i : Nat} {g : Nat → Nat} (hs : Srt R (a + 1) b g) (h1 : a + 1 ≤ i) (h2 : i ≤ b) (hl : ∀ x, a + 1 ≤ x → x < i → R (g x) (g a)) (hr : ∀ x, i ≤ x → x < b → R (g a) (g x)) :
    Srt R a b (fun x => g (mvI a (i - 1) x)) := by
  intro x y x1 x2 x3
  show R (g (mvI a (i - 1) x)) (g (mvI a (i - 1) y))
  by_cases hx : x < i - 1
  · have e1 : mvI a (i - 1) x = x + 1 := by have := mvI_spec a (i - 1) x; omega
    rw [e1]
    by_cases hy : y < i - 1
    · have e2 : mvI a (i - 1) y = y + 1 := by have := mvI_spec a (i - 1) y; omega
      rw [e2]; exact hs _ _ (by omega) (by omega) (by omega)
    · by_cases hy2 : y = i - 1
      · have e2 : mvI a (i - 1) y = a := by have := mvI_spec a (i - 1) y; omega
        rw [e2]; exact hl _ (by omega) (by omega)
      · have e2 : mvI a (i - 1) y = y := by have := mvI_spec a (i - 1) y; omega
        rw [e2]; exact hs _ _ (by omega) (by omega) (by omega)
  · have e2 : mvI a (i - 1) y = y := by have := mvI_spec a (i - 1) y; omega
    rw [e2]
    by_cases hx2 : x = i - 1
    · have e1 : mvI a (i - 1) x = a := by have := mvI_spec a (i - 1) x; omega
      rw [e1]; exact hr _ (by omega) x3
    · have e1 : mvI a (i - 1) x = x := by have := mvI_spec a (i - 1) x; omega
      rw [e1]; exact hs _ _ (by omega) (by omega) (by omega)
/-- One value behind a run. -/
theorem right_no {a m c : Nat} {g : Nat → Nat} (O : Ord lt R) (hs : Srt R a m g) (he : Erl a m (m + 1) g) (h1 : a ≤ c) (h2 : c < m) (hl : ¬ lt (g m) (g c)) :
    ∀ x, a ≤ x → x < c + 1 → R (g x) (g m) := by
  intro x x1 x2
  have hc : R (g c) (g m) := O.no (he c m h1 h2 (Nat.le_refl _) (by omega)) hl
  by_cases hx : x = c
  · subst hx; exact hc
  · exact O.tr (hs x c x1 (by omega) h2) hc
theorem right_yes {a m c : Nat} {g : Nat → Nat} (O : Ord lt R) (hs : Srt R a m g) (he : Erl a m (m + 1) g) (h1 : a ≤ c) (h2 : c < m) (hl : lt (g m) (g c)) :
    ∀ x, c ≤ x → x < m → R (g m) (g x) := by
  intro x x1 x2
  have hc : R (g m) (g c) := O.yes (he c m h1 h2 (Nat.le_refl _) (by omega)) hl
  by_cases hx : x = c
  · subst hx; exact hc
  · exact O.tr hc (hs c x h1 (by omega) x2)
theorem right_srt {a m i : Nat} {g : Nat → Nat} (hs : Srt R a m g) (h1 : a ≤ i) (h2 : i ≤ m) (hl : ∀ x, a ≤ x → x < i → R (g x) (g m)) (hr : ∀ x, i ≤ x → x < m → R (g m) (g x)) :
    Srt R a (m + 1) (fun x => g (mrI m i x)) := by
  intro x y x1 x2 x3
  show R (g (mrI m i x)) (g (mrI m i y))
  by_cases hy : y < i
  · have e1 : mrI m i x = x := by have := mrI_spec m i x; omega
    have e2 : mrI m i y = y := by have := mrI_spec m i y; omega
    rw [e1, e2]; exact hs _ _ x1 x2 (by omega)
  · by_cases hy2 : y = i
    · have e1 : mrI m i x = x := by have := mrI_spec m i x; omega
      have e2 : mrI m i y = m := by have := mrI_spec m i y; omega
      rw [e1, e2]; exact hl _ x1 (by omega)
    · have e2 : mrI m i y = y - 1 := by have := mrI_spec m i y; omega
      rw [e2]
      by_cases hx : x < i
      · have e1 : mrI m i x = x := by have := mrI_spec m i x; omega
        rw [e1]; exact hs _ _ x1 (by omega) (by omega)
      · by_cases hx2 : x = i
        · have e1 : mrI m i x = m := by have := mrI_spec m i x; omega
          rw [e1]; exact hr _ (by omega) (by omega)
        · have e1 : mrI m i x = x - 1 := by have := mrI_spec m i x; omega
          rw [e1]; exact hs _ _ (by omega) (by omega) (by omega)

/-- The search for the place to cut two runs at. -/
theorem mid_no {a m b p c s0 : Nat} {g : Nat → Nat} (O : Ord lt R) (h1 : Srt R a m g) (h2 : Srt R m b g) (he : Erl a m b g) (hs0 : a ≤ s0) (hc0 : s0 ≤ c) (hc : c < m) (hp : m + c ≤ p) (hb : p < b + s0) (hl : ¬ lt (g (p - c)) (g c)) :
    ∀ x, s0 ≤ x → x < c + 1 → R (g x) (g (p - x)) := by
  intro x x1 x2
  have hcc : R (g c) (g (p - c)) := O.no (he c (p - c) (by omega) hc (by omega) (by omega)) hl
  by_cases hx : x = c
  · subst hx; exact hcc
  · exact O.tr (O.tr (h1 x c (by omega) (by omega) hc) hcc) (h2 (p - c) (p - x) (by omega) (by omega) (by omega))
theorem mid_yes {a m b p c r0 : Nat} {g : Nat → Nat} (O : Ord lt R) (h1 : Srt R a m g) (h2 : Srt R m b g) (he : Erl a m b g) (hs0 : a ≤ c) (hr : r0 ≤ m) (hc : c < r0) (hp : m + r0 ≤ p + 1) (hb : p < b + c) (hl : lt (g (p - c)) (g c)) :
    ∀ x, c ≤ x → x < r0 → R (g (p - x)) (g x) := by
  intro x x1 x2
  have hcc : R (g (p - c)) (g c) := O.yes (he c (p - c) (by omega) (by omega) (by omega) (by omega)) hl
  by_cases hx : x = c
  · subst hx; exact hcc
  · exact O.tr (O.tr (h2 (p - x) (p - c) (by omega) (by omega) (by omega)) hcc) (h1 c x (by omega) (by omega) (by omega))

/-- What the rotation leaves: two pairs of runs, all of the first pair before all of the second. -/
structure Cutd (R : Nat → Nat → Prop) (a s mid e b : Nat) (h : Nat → Nat) : Prop where
  s1 : Srt R a s h
  s2 : Srt R s mid h
  s3 : Srt R mid e h
  s4 : Srt R e b h
  e1 : Erl a s mid h
  e2 : Erl mid e b h
  cross : ∀ x y, a ≤ x → x < mid → mid ≤ y → y < b → R (h x) (h y)
theorem cut_rot {a m b s mid e : Nat} {g : Nat → Nat} (O : Ord lt R) (h1 : Srt R a m g) (h2 : Srt R m b g) (he : Erl a m b g)
    (has : a ≤ s) (hsm : s ≤ m) (hsd : s ≤ mid) (hee : e + s = mid + m) (heb : e ≤ b)
    (hL : a < s → e < b → R (g (s - 1)) (g e)) (hR : s < m → m < e → R (g (e - 1)) (g s)) : Cutd R a s mid e b (fun x => g (rotI s m e x)) := by
  have r1 : ∀ x, x < s → rotI s m e x = x := fun x hx => by have := rotI_spec s m e x; omega
  have r2 : ∀ x, s ≤ x → x < mid → rotI s m e x = x + (m - s) := fun x hx hx2 => by have := rotI_spec s m e x; omega
  have r3 : ∀ x, mid ≤ x → x < e → rotI s m e x = x - (e - m) := fun x hx hx2 => by have := rotI_spec s m e x; omega
  have r4 : ∀ x, e ≤ x → rotI s m e x = x := fun x hx => by have := rotI_spec s m e x; omega
  have up : ∀ x y, a ≤ x → x ≤ y → y < m → ∀ z, R (g y) z → R (g x) z := fun x y x1 x2 x3 z hz => by
    by_cases hxy : x = y
    · subst hxy; exact hz
    · exact O.tr (h1 x y x1 (by omega) x3) hz
  have up2 : ∀ x y, m ≤ x → x ≤ y → y < b → ∀ z, R (g y) z → R (g x) z := fun x y x1 x2 x3 z hz => by
    by_cases hxy : x = y
    · subst hxy; exact hz
    · exact O.tr (h2 x y x1 (by omega) x3) hz
  have dn : ∀ x y, a ≤ x → x ≤ y → y < m → ∀ z, R z (g x) → R z (g y) := fun x y x1 x2 x3 z hz => by
    by_cases hxy : x = y
    · subst hxy; exact hz
    · exact O.tr hz (h1 x y x1 (by omega) x3)
  have dn2 : ∀ x y, m ≤ x → x ≤ y → y < b → ∀ z, R z (g x) → R z (g y) := fun x y x1 x2 x3 z hz => by
    by_cases hxy : x = y
    · subst hxy; exact hz
    · exact O.tr hz (h2 x y x1 (by omega) x3)
  refine ⟨fun x y x1 x2 x3 => ?_, fun x y x1 x2 x3 => ?_, fun x y x1 x2 x3 => ?_, fun x y x1 x2 x3 => ?_, fun x y x1 x2 x3 x4 => ?_, fun x y x1 x2 x3 x4 => ?_, fun x y x1 x2 x3 x4 => ?_⟩
  · show R (g (rotI s m e x)) (g (rotI s m e y))
    rw [r1 x (by omega), r1 y x3]; exact h1 _ _ x1 x2 (by omega)
  · show R (g (rotI s m e x)) (g (rotI s m e y))
    rw [r2 x x1 (by omega), r2 y (by omega) x3]; exact h2 _ _ (by omega) (by omega) (by omega)
  · show R (g (rotI s m e x)) (g (rotI s m e y))
    rw [r3 x x1 (by omega), r3 y (by omega) x3]; exact h1 _ _ (by omega) (by omega) (by omega)
  · show R (g (rotI s m e x)) (g (rotI s m e y))
    rw [r4 x x1, r4 y (by omega)]; exact h2 _ _ (by omega) x2 x3
  · show g (rotI s m e x) < g (rotI s m e y)
    rw [r1 x x2, r2 y x3 x4]; exact he _ _ x1 (by omega) (by omega) (by omega)
  · show g (rotI s m e x) < g (rotI s m e y)
    rw [r3 x x1 x2, r4 y x3]; exact he _ _ (by omega) (by omega) (by omega) x4
  · show R (g (rotI s m e x)) (g (rotI s m e y))
    by_cases hx : x < s
    · rw [r1 x hx]
      by_cases hy : y < e
      · rw [r3 y x3 hy]; exact h1 _ _ x1 (by omega) (by omega)
      · rw [r4 y (by omega)]
        exact up x (s - 1) x1 (by omega) (by omega) _ (dn2 e y (by omega) (by omega) x4 _ (hL (by omega) (by omega)))
    · rw [r2 x (by omega) x2]
      by_cases hy : y < e
      · rw [r3 y x3 hy]
        exact up2 _ (e - 1) (by omega) (by omega) (by omega) _ (dn s _ (by omega) (by omega) (by omega) _ (hR (by omega) (by omega)))
      · rw [r4 y (by omega)]; exact h2 _ _ (by omega) (by omega) x4
/-- Sorted parts, one before the other. -/
theorem srt_join {a mid b : Nat} {h : Nat → Nat} (h1 : Srt R a mid h) (h2 : Srt R mid b h) (hc : ∀ x y, a ≤ x → x < mid → mid ≤ y → y < b → R (h x) (h y)) : Srt R a b h := by
  intro x y x1 x2 x3
  by_cases hy : y < mid
  · exact h1 x y x1 x2 hy
  · by_cases hx : x < mid
    · exact hc x y x1 hx (by omega) x3
    · exact h2 x y (by omega) x2 x3
theorem Srt.congr {a b : Nat} {g h : Nat → Nat} (e : ∀ x, a ≤ x → x < b → h x = g x) (p : Srt R a b g) : Srt R a b h := fun x y h1 h2 h3 => by
  rw [e x h1 (by omega), e y (by omega) h3]; exact p x y h1 h2 h3
theorem Erl.congr {a m b : Nat} {g h : Nat → Nat} (e : ∀ x, a ≤ x → x < b → h x = g x) (p : Erl a m b g) : Erl a m b h := fun x y h1 h2 h3 h4 => by
  rw [e x h1 (by omega), e y (by omega) h4]; exact p x y h1 h2 h3 h4
/-- Behind the two calls. -/
theorem cut_join {a s mid e b : Nat} {h1 h2 h3 : Nat → Nat} (c : Cutd R a s mid e b h1) (p : PI a mid h1 h2) (q : PI mid b h2 h3) (s2 : Srt R a mid h2) (s3 : Srt R mid b h3) : Srt R a b h3 := by
  refine srt_join (mid := mid) (s2.congr fun x x1 x2 => q.out x (.inl x2)) s3 fun x y x1 x2 x3 x4 => ?_
  rw [q.out x (.inl x2)]
  obtain ⟨i, i1, i2, ei⟩ := p.ins x x1 x2
  obtain ⟨j, j1, j2, ej⟩ := q.ins y x3 x4
  rw [ei, ej, p.out j (.inr j1)]
  exact c.cross i j i1 i2 j1 j2
theorem Cutd.left {a s mid e b : Nat} {h : Nat → Nat} (c : Cutd R a s mid e b h) (hn : ¬ (a < s ∧ s < mid)) (h1 : a ≤ s) (h2 : s ≤ mid) : Srt R a mid h := by
  by_cases hs : a < s
  · obtain rfl : s = mid := by omega
    exact c.s1
  · obtain rfl : a = s := by omega
    exact c.s2
theorem Cutd.right {a s mid e b : Nat} {h h' : Nat → Nat} (c : Cutd R a s mid e b h) (hh : ∀ x, mid ≤ x → h' x = h x) (hn : ¬ (mid < e ∧ e < b)) (h1 : mid ≤ e) (h2 : e ≤ b) : Srt R mid b h' := by
  refine Srt.congr (g := h) (fun x x1 _ => hh x x1) ?_
  by_cases hs : mid < e
  · obtain rfl : e = b := by omega
    exact c.s3
  · obtain rfl : mid = e := by omega
    exact c.s4

/-- What stands below c are the numbers below c. -/
def Ct (c : Nat) (g : Nat → Nat) : Prop := ∀ k, (k < c → g k < c) ∧ (c ≤ k → c ≤ g k)
theorem Ct.pi {a b c : Nat} {g h : Nat → Nat} (p : PI a b g h) (q : Ct c g) (hc : c ≤ a ∨ b ≤ c) : Ct c h := by
  intro k
  by_cases hk : a ≤ k ∧ k < b
  · obtain ⟨j, j1, j2, e⟩ := p.ins k hk.1 hk.2
    rw [e]
    exact ⟨fun h1 => (q j).1 (by omega), fun h1 => (q j).2 (by omega)⟩
  · rw [p.out k (by omega)]; exact q k
theorem Ct.erl {a m b : Nat} {g : Nat → Nat} (q : Ct m g) : Erl a m b g := fun i j _ h2 h3 _ => by
  have := (q i).1 h2
  have := (q j).2 h3
  omega
/-- The first phase: blocks of 20 are sorted up to a. -/
structure P1 (R : Nat → Nat → Prop) (n a : Nat) (g : Nat → Nat) : Prop where
  all : PI 0 n id g
  same : ∀ k, a ≤ k → g k = k
  mul : ∃ q, a = q * 20
  le : a ≤ n
  ct : ∀ q, Ct (q * 20) g
  srt : ∀ q, (q + 1) * 20 ≤ a → Srt R (q * 20) ((q + 1) * 20) g
theorem P1.start (R : Nat → Nat → Prop) (n : Nat) : P1 R n 0 id :=
  ⟨PI.refl _ _ _, fun _ _ => rfl, ⟨0, rfl⟩, Nat.zero_le _, fun q k => ⟨fun h => h, fun h => h⟩, fun q hq => by omega⟩
theorem P1.inc {n a : Nat} {g : Nat → Nat} (p : P1 R n a g) (b : Nat) : ∀ x y, a ≤ x → x < y → y < b → g x < g y := fun x y h1 h2 _ => by
  rw [p.same x h1, p.same y (by omega)]; exact h2
theorem P1.step {n a : Nat} {g h : Nat → Nat} (p : P1 R n a g) (hn : a + 20 ≤ n) (q : PI a (a + 20) g h) (s : Srt R a (a + 20) h) : P1 R n (a + 20) h := by
  obtain ⟨q0, e0⟩ := p.mul
  refine ⟨p.all.trans (q.mono (by omega) hn), fun k hk => (q.out k (.inr hk)).trans (p.same k (by omega)), ⟨q0 + 1, by omega⟩, hn, fun q1 => (p.ct q1).pi q (by omega), fun q1 h1 => ?_⟩
  by_cases hq : (q1 + 1) * 20 ≤ a
  · exact (p.srt q1 hq).congr fun x _ x2 => q.out x (.inl (by omega))
  · obtain rfl : q1 = q0 := by omega
    rw [show q1 * 20 = a by omega, show (q1 + 1) * 20 = a + 20 by omega]
    exact s
/-- All blocks of size z are sorted. -/
structure BlkOk (R : Nat → Nat → Prop) (z n : Nat) (g : Nat → Nat) : Prop where
  all : PI 0 n id g
  ct : ∀ q, Ct (q * z) g
  srt : ∀ q, Srt R (q * z) (min ((q + 1) * z) n) g
theorem P1.last {n a : Nat} {g h : Nat → Nat} (p : P1 R n a g) (hn : n < a + 20) (q : PI a n g h) (s : Srt R a n h) : BlkOk R 20 n h := by
  obtain ⟨q0, e0⟩ := p.mul
  have := p.le
  refine ⟨p.all.trans (q.mono (by omega) (Nat.le_refl _)), fun q1 => (p.ct q1).pi q (by omega), fun q1 => ?_⟩
  by_cases hq : (q1 + 1) * 20 ≤ a
  · rw [show min ((q1 + 1) * 20) n = (q1 + 1) * 20 by omega]
    exact (p.srt q1 hq).congr fun x _ x2 => q.out x (.inl (by omega))
  · by_cases h1 : q1 = q0
    · subst h1
      rw [show q1 * 20 = a by omega, show min ((q1 + 1) * 20) n = n by omega]
      exact s
    · intro x y x1 x2 x3
      omega
/-- The blocks of size z up to n are sorted, from the block at a on; those before are of twice the size. -/
structure Blk (R : Nat → Nat → Prop) (z n a : Nat) (g : Nat → Nat) : Prop where
  all : PI 0 n id g
  pos : 0 < z
  mul : ∃ q, a = q * (2 * z)
  ct : ∀ q, a ≤ q * z → Ct (q * z) g
  srt : ∀ q, a ≤ q * z → Srt R (q * z) (min ((q + 1) * z) n) g
  ct2 : ∀ q, Ct (q * (2 * z)) g
  srt2 : ∀ q, (q + 1) * (2 * z) ≤ a → Srt R (q * (2 * z)) ((q + 1) * (2 * z)) g
theorem twice (q z : Nat) : q * (2 * z) = (2 * q) * z := by rw [Nat.mul_comm 2 q, Nat.mul_assoc]
theorem more (q z : Nat) : (q + 1) * z = q * z + z := Nat.succ_mul q z
theorem BlkOk.start {z n : Nat} {g : Nat → Nat} (p : BlkOk R z n g) (hz : 0 < z) : Blk R z n 0 g :=
  ⟨p.all, hz, ⟨0, by omega⟩, fun q _ => p.ct q, fun q _ => p.srt q, fun q => by rw [twice]; exact p.ct _, fun q h => by rw [more q (2 * z)] at h; omega⟩
/-- What a merge asks for. -/
theorem Blk.ask {z n a m b : Nat} {g : Nat → Nat} (p : Blk R z n a g) (hm : m = a + z) (hmn : m ≤ n) (hb : b = min (m + z) n) : Srt R a m g ∧ Srt R m b g ∧ Erl a m b g := by
  subst hm hb
  obtain ⟨q, e⟩ := p.mul
  rw [twice] at e
  have h1 := p.srt (2 * q) (by omega)
  have h2 := p.srt (2 * q + 1) (by rw [more (2 * q) z]; omega)
  have h3 := p.ct (2 * q + 1) (by rw [more (2 * q) z]; omega)
  rw [more (2 * q + 1) z, more (2 * q) z, ← e] at h2
  rw [more (2 * q) z, ← e] at h1
  rw [more (2 * q) z, ← e] at h3
  rw [show min (a + z) n = a + z by omega] at h1
  exact ⟨h1, h2, h3.erl⟩
theorem Blk.step {z n a b : Nat} {g h : Nat → Nat} (p : Blk R z n a g) (hb : b = a + 2 * z) (hn : b ≤ n) (q : PI a b g h) (s : Srt R a b h) : Blk R z n b h := by
  subst hb
  obtain ⟨q0, e0⟩ := p.mul
  have hz := p.pos
  have far : ∀ q1, q1 * (2 * z) ≤ a ∨ a + 2 * z ≤ q1 * (2 * z) := fun q1 => by
    rcases Nat.lt_or_ge q0 q1 with h1 | h1
    · refine .inr ?_
      have := Nat.mul_le_mul_right (2 * z) (show q0 + 1 ≤ q1 from h1)
      rw [more q0 (2 * z)] at this
      omega
    · refine .inl ?_
      have := Nat.mul_le_mul_right (2 * z) h1
      omega
  refine ⟨p.all.trans (q.mono (by omega) hn), hz, ⟨q0 + 1, by rw [more q0 (2 * z)]; omega⟩, fun q1 h1 => (p.ct q1 (by omega)).pi q (.inr h1), fun q1 h1 => (p.srt q1 (by omega)).congr fun x x1 _ => q.out x (.inr (by omega)), fun q1 => (p.ct2 q1).pi q (far q1), fun q1 h1 => ?_⟩
  by_cases hq : (q1 + 1) * (2 * z) ≤ a
  · exact (p.srt2 q1 hq).congr fun x _ x2 => q.out x (.inl (by omega))
  · have e1 : q1 * (2 * z) = a := by
      rw [more q1 (2 * z)] at h1 hq
      rcases far q1 with h2 | h2
      · rcases far (q1 + 1) with h3 | h3
        · rw [more q1 (2 * z)] at h3; omega
        · rw [more q1 (2 * z)] at h3; omega
      · omega
    rw [more q1 (2 * z), e1]
    exact s
theorem Blk.last {z n a : Nat} {g h : Nat → Nat} (p : Blk R z n a g) (hn : n < a + 2 * z) (q : PI a n g h) (s : Srt R a n h) (han : a ≤ n) : BlkOk R (2 * z) n h := by
  obtain ⟨q0, e0⟩ := p.mul
  have hz := p.pos
  have far : ∀ q1, q1 * (2 * z) ≤ a ∨ a + 2 * z ≤ q1 * (2 * z) := fun q1 => by
    rcases Nat.lt_or_ge q0 q1 with h1 | h1
    · refine .inr ?_
      have := Nat.mul_le_mul_right (2 * z) (show q0 + 1 ≤ q1 from h1)
      rw [more q0 (2 * z)] at this
      omega
    · refine .inl ?_
      have := Nat.mul_le_mul_right (2 * z) h1
      omega
  refine ⟨p.all.trans (q.mono (by omega) (Nat.le_refl _)), fun q1 => (p.ct2 q1).pi q (by have := far q1; omega), fun q1 => ?_⟩
  rcases far (q1 + 1) with h1 | h1
  · rw [show min ((q1 + 1) * (2 * z)) n = (q1 + 1) * (2 * z) by omega]
    exact (p.srt2 q1 h1).congr fun x _ x2 => q.out x (.inl (by omega))
  · rcases far q1 with h2 | h2
    · have e1 : q1 * (2 * z) = a := by rw [more q1 (2 * z)] at h1; omega
      rw [show min ((q1 + 1) * (2 * z)) n = n by omega, e1]
      exact s
    · intro x y x1 x2 x3
      omega
/-- The last blocks, if no second one is there. -/
theorem Blk.tail {z n a : Nat} {g : Nat → Nat} (p : Blk R z n a g) (hn : n ≤ a + z) : Srt R a n g := by
  obtain ⟨q, e⟩ := p.mul
  rw [twice] at e
  have h1 := p.srt (2 * q) (by omega)
  rw [more (2 * q) z, ← e, show min (a + z) n = n by omega] at h1
  exact h1
theorem BlkOk.end_ {z n : Nat} {g : Nat → Nat} (p : BlkOk R z n g) (h : n ≤ z) : Srt R 0 n g := by
  have h1 := p.srt 0
  rw [show min ((0 + 1) * z) n = n by omega, Nat.zero_mul] at h1
  exact h1
end St
end Go.Proofs.Ytgkagigagcamoaa


/-
Plain mathematics on Lyndon words, by places: the order of words, the longest Lyndon word at the front, the least turn, the next word. No program is named here.
-/
namespace Go.Proofs.Ytgkagigagcamoaa
namespace Lm

/-- The word of the n numbers f 0, f 1, .. is less than that of the m numbers h 0, h 1, .. . -/
def Sl (f : Nat → Nat) (n : Nat) (h : Nat → Nat) (m : Nat) : Prop := ∃ d, d ≤ n ∧ d < m ∧ (∀ i, i < d → f i = h i) ∧ (d = n ∨ d < n ∧ f d < h d)
/-- The n numbers f 0, f 1, .. are a Lyndon word: less than each of its ends. -/
def LynF (f : Nat → Nat) (n : Nat) : Prop := 0 < n ∧ ∀ k, 0 < k → k < n → ∃ j, k + j < n ∧ (∀ i, i < j → f i = f (k + i)) ∧ f j < f (k + j)
theorem LynF.congr {f h : Nat → Nat} {n : Nat} (e : ∀ i, i < n → f i = h i) (p : LynF f n) : LynF h n := by
  refine ⟨p.1, fun k h0 hk => ?_⟩
  obtain ⟨j, hj, ha, hl⟩ := p.2 k h0 hk
  refine ⟨j, hj, fun i hi => ?_, ?_⟩
  · rw [← e i (by omega), ← e (k + i) (by omega)]; exact ha i hi
  · rw [← e j (by omega), ← e (k + j) hj]; exact hl
theorem lyn_one (f : Nat → Nat) : LynF f 1 := ⟨by omega, fun k h0 hk => by omega⟩

theorem mod_add (p m x : Nat) (h : x < p) : (m * p + x) % p = x := by rw [Nat.mul_comm, Nat.mul_add_mod, Nat.mod_eq_of_lt h]

/-- A front of a Lyndon word's repetition with a greater number behind it is a Lyndon word. -/
theorem lyn_step {f : Nat → Nat} {p : Nat} (h : LynF f p) (e c : Nat) (hc : f (e % p) < c) : LynF (fun i => if i < e then f (i % p) else c) (e + 1) := by
  refine ⟨by omega, fun k h0 hk => ?_⟩
  have hp := h.1
  by_cases hr : k % p = 0
  · refine ⟨e - k, by omega, fun i hi => ?_, ?_⟩
    · simp only []
      rw [if_pos (by omega), if_pos (by omega), Nat.add_mod, hr, Nat.zero_add, Nat.mod_mod]
    · simp only []
      rw [if_pos (by omega), if_neg (by omega)]
      have : (e - k) % p = e % p := by
        have h1 : e = k + (e - k) := by omega
        conv => rhs; rw [h1, Nat.add_mod, hr, Nat.zero_add, Nat.mod_mod]
      rw [this]; exact hc
  · have hlt := Nat.mod_lt k hp
    obtain ⟨j, hj, ha, hl⟩ := h.2 (k % p) (by omega) hlt
    have hm : ∀ x, k % p + x < p → (k + x) % p = k % p + x := by
      intro x hx
      have : k + x = k / p * p + (k % p + x) := by have := Nat.div_add_mod k p; rw [Nat.mul_comm] at this; omega
      rw [this, mod_add _ _ _ hx]
    by_cases hje : k + j < e
    · refine ⟨j, by omega, fun i hi => ?_, ?_⟩
      · simp only []
        rw [if_pos (by omega), if_pos (by omega), hm i (by omega), Nat.mod_eq_of_lt (by omega)]
        exact ha i hi
      · simp only []
        rw [if_pos (by omega), if_pos (by omega), hm j (by omega), Nat.mod_eq_of_lt (by omega)]
        exact hl
    · refine ⟨e - k, by omega, fun i hi => ?_, ?_⟩
      · simp only []
        rw [if_pos (by omega), if_pos (by omega), hm i (by omega), Nat.mod_eq_of_lt (by omega)]
        exact ha i (by omega)
      · simp only []
        rw [if_pos (by omega), if_neg (by omega)]
        have e1 := hm (e - k) (by omega)
        rw [show k + (e - k) = e by omega] at e1
        rw [e1] at hc
        rw [Nat.mod_eq_of_lt (by omega)]
        by_cases hq : e - k = j
        · rw [hq] at hc ⊢; omega
        · have := ha (e - k) (by omega); omega

/-- What the search for the front knows: the first p numbers are a Lyndon word, and the first e repeat it. -/
structure Dv (f : Nat → Nat) (n p e : Nat) : Prop where
  p0 : 0 < p
  pe : p ≤ e
  en : e ≤ n
  lyn : LynF f p
  per : ∀ i, i + p < e → f (i + p) = f i
theorem dv_start (f : Nat → Nat) {n : Nat} (h : 0 < n) : Dv f n 1 1 := ⟨by omega, by omega, h, lyn_one f, fun i hi => by omega⟩
theorem dv_same {f : Nat → Nat} {n p e : Nat} (h : Dv f n p e) (he : e < n) (hq : f (e - p) = f e) : Dv f n p (e + 1) := by
  refine ⟨h.p0, by have := h.pe; omega, he, h.lyn, fun i hi => ?_⟩
  by_cases hx : i + p < e
  · exact h.per i hx
  · rw [show i + p = e by omega, ← hq]; congr 1; omega
theorem Dv.mod {f : Nat → Nat} {n p e : Nat} (h : Dv f n p e) : ∀ i, i < e → f i = f (i % p) := by
  have : Wm.Per f e p := fun i hi => (h.per i hi).symm
  exact this.mod
theorem dv_more {f : Nat → Nat} {n p e : Nat} (h : Dv f n p e) (he : e < n) (hq : f (e - p) < f e) : Dv f n (e + 1) (e + 1) := by
  refine ⟨by omega, by omega, he, ?_, fun i hi => by omega⟩
  have hp := h.p0
  have hpe := h.pe
  have e1 : f (e % p) = f (e - p) := by
    rw [h.mod (e - p) (by omega)]
    congr 1
    exact Nat.mod_eq_sub_mod hpe
  refine (lyn_step h.lyn e (f e) (by omega)).congr fun i hi => ?_
  by_cases hx : i < e
  · rw [if_pos hx]; exact (h.mod i hx).symm
  · rw [if_neg hx, show i = e by omega]
/-- And where it ends. -/
structure Dn (f : Nat → Nat) (n p e : Nat) : Prop extends Dv f n p e where
  fin : e = n ∨ f e < f (e - p)
theorem Dn.longest {f : Nat → Nat} {n p e : Nat} (h : Dn f n p e) {q : Nat} (hp : p < q) (hq : q ≤ n) : ¬ LynF f q := by
  intro hl
  obtain ⟨j, hj, ha, hlt⟩ := hl.2 p h.p0 hp
  have hpe := h.pe
  by_cases hx : p + j < e
  · have := h.per j (by omega)
    rw [show j + p = p + j by omega] at this
    omega
  · rcases h.fin with hf | hf
    · omega
    · by_cases hy : e - p = j
      · rw [hy] at hf
        rw [show p + j = e by omega] at hlt
        omega
      · have := ha (e - p) (by omega)
        rw [show p + (e - p) = e by omega] at this
        omega
theorem Dn.whole {f : Nat → Nat} {n p e : Nat} (h : Dn f n p e) : p = n ↔ LynF f n := by
  constructor
  · rintro rfl; exact h.lyn
  · intro hl
    have h1 := h.pe
    have h2 := h.en
    by_cases hq : p = n
    · exact hq
    · exact absurd hl (h.longest (by omega) (Nat.le_refl _))
theorem Dn.rest {f : Nat → Nat} {n p e : Nat} (h : Dn f n p e) : e / p * p ≤ e ∧ e - e / p * p < p ∧ p ≤ e / p * p ∧ 0 < e / p ∧ (∀ x, x < e - e / p * p → f (e / p * p + x) = f x) ∧ (e < n → f e < f (e - e / p * p)) := by
  have hp := h.p0
  have hpe := h.pe
  have hdm := Nat.div_add_mod e p
  have hml := Nat.mod_lt e hp
  have hd0 : 0 < e / p := Nat.div_pos hpe hp
  rw [Nat.mul_comm] at hdm
  have h1 : 1 * p ≤ e / p * p := Nat.mul_le_mul_right p hd0
  refine ⟨by omega, by omega, by omega, hd0, fun x hx => ?_, fun hn => ?_⟩
  · rw [h.mod _ (by omega), mod_add _ _ _ (by omega)]
  · rcases h.fin with hf | hf
    · omega
    · rw [h.mod (e - p) (by omega), ← Nat.mod_eq_sub_mod hpe] at hf
      rw [show e - e / p * p = e % p by omega]
      exact hf
/-- No front of what stands behind the repetitions is greater than the word that is repeated. -/
theorem Dn.falls {f : Nat → Nat} {n p e : Nat} (h : Dn f n p e) {q : Nat} (hq : e / p * p + q ≤ n) : ¬ Sl f p (fun i => f (e / p * p + i)) q := by
  obtain ⟨h1, h2, h3, h4, h5, h6⟩ := h.rest
  generalize e / p * p = b at *
  rintro ⟨d, hd, hdq, ha, hl⟩
  simp only [] at ha hl
  by_cases hx : d < e - b
  · have := h5 d hx
    omega
  · have h7 := h6 (by omega)
    by_cases hy : d = e - b
    · rw [show b + d = e by omega] at hl
      rw [← hy] at h7
      omega
    · have := ha (e - b) (by omega)
      rw [show b + (e - b) = e by omega] at this
      omega

/-- The turn of the n numbers f 0, f 1, .. from the place i is less than that from j. -/
def Lt (f : Nat → Nat) (n i j : Nat) : Prop := ∃ d, d < n ∧ (∀ x, x < d → f ((i + x) % n) = f ((j + x) % n)) ∧ f ((i + d) % n) < f ((j + d) % n)
theorem Lt.irrefl {f : Nat → Nat} {n i : Nat} (h : Lt f n i i) : False := by obtain ⟨d, _, _, h⟩ := h; omega
theorem Lt.trans {f : Nat → Nat} {n i j k : Nat} (h : Lt f n i j) (g : Lt f n j k) : Lt f n i k := by
  obtain ⟨d, hd, ha, hl⟩ := h
  obtain ⟨c, hc, hb, hm⟩ := g
  by_cases hx : d < c
  · exact ⟨d, hd, fun x hx' => (ha x hx').trans (hb x (by omega)), by have := hb d hx; omega⟩
  · by_cases hy : d = c
    · subst hy
      exact ⟨d, hd, fun x hx' => (ha x hx').trans (hb x hx'), by omega⟩
    · exact ⟨c, hc, fun x hx' => (ha x (by omega)).trans (hb x hx'), by have := ha c (by omega); omega⟩
theorem Lt.asymm {f : Nat → Nat} {n i j : Nat} (h : Lt f n i j) (g : Lt f n j i) : False := (h.trans g).irrefl
theorem Lt.less {f : Nat → Nat} {n i j : Nat} (h : Lt f n (i + n) j) : Lt f n i j := by
  obtain ⟨d, hd, ha, hl⟩ := h
  have e : ∀ x, (i + n + x) % n = (i + x) % n := fun x => by rw [show i + n + x = i + x + n by omega, Nat.add_mod_right]
  refine ⟨d, hd, fun x hx => ?_, ?_⟩
  · rw [← e]; exact ha x hx
  · rw [← e]; exact hl
theorem lt_or_same {f : Nat → Nat} {n i j : Nat} (h1 : ¬ Lt f n i j) (h2 : ¬ Lt f n j i) : ∀ x, x < n → f ((i + x) % n) = f ((j + x) % n) := by
  intro x
  induction x using Nat.strongRecOn with
  | ind x ih =>
    intro hx
    rcases Nat.lt_trichotomy (f ((i + x) % n)) (f ((j + x) % n)) with h | h | h
    · exact absurd ⟨x, hx, fun y hy => ih y hy (by omega), h⟩ h1
    · exact h
    · exact absurd ⟨x, hx, fun y hy => (ih y hy (by omega)).symm, h⟩ h2

/-- A Lyndon word is less than each of its turns, and the other way round. -/
theorem lyn_turns {f : Nat → Nat} {n : Nat} (hn : 0 < n) : LynF f n ↔ ∀ k, 0 < k → k < n → Lt f n 0 k := by
  constructor
  · intro h k h0 hk
    obtain ⟨j, hj, ha, hl⟩ := h.2 k h0 hk
    refine ⟨j, by omega, fun x hx => ?_, ?_⟩
    · rw [Nat.zero_add, Nat.mod_eq_of_lt (by omega), Nat.mod_eq_of_lt (by omega)]; exact ha x hx
    · rw [Nat.zero_add, Nat.mod_eq_of_lt (by omega), Nat.mod_eq_of_lt (by omega)]; exact hl
  · intro h
    refine ⟨hn, fun k h0 hk => ?_⟩
    obtain ⟨d, hd, ha, hl⟩ := h k h0 hk
    simp only [Nat.zero_add] at ha hl
    rw [Nat.mod_eq_of_lt hd] at hl
    by_cases hx : k + d < n
    · rw [Nat.mod_eq_of_lt hx] at hl
      refine ⟨d, hx, fun i hi => ?_, hl⟩
      have := ha i hi
      rwa [Nat.mod_eq_of_lt (by omega), Nat.mod_eq_of_lt (by omega)] at this
    · exfalso
      obtain ⟨c, hc, hb, hm⟩ := h (n - k) (by omega) (by omega)
      simp only [Nat.zero_add] at hb hm
      rw [Nat.mod_eq_of_lt hc] at hm
      have e1 : ∀ x, n - k ≤ x → x < n → (k + x) % n = x - (n - k) := fun x h1 h2 => by
        rw [show k + x = (x - (n - k)) + n by omega, Nat.add_mod_right, Nat.mod_eq_of_lt (by omega)]
      rw [e1 d (by omega) hd] at hl
      have e2 : ∀ x, x < k → (n - k + x) % n = n - k + x := fun x h1 => Nat.mod_eq_of_lt (by omega)
      by_cases hq : c < d - (n - k)
      · have h3 := ha (n - k + c) (by omega)
        rw [Nat.mod_eq_of_lt (by omega), e1 _ (by omega) (by omega), show n - k + c - (n - k) = c by omega] at h3
        rw [e2 c (by omega)] at hm
        omega
      · by_cases hr : c = d - (n - k)
        · rw [e2 c (by omega), show n - k + c = d by omega, hr] at hm
          omega
        · have h3 := hb (d - (n - k)) (by omega)
          rw [Nat.mod_eq_of_lt (by omega), e2 _ (by omega), show n - k + (d - (n - k)) = d by omega] at h3
          omega
end Lm
end Go.Proofs.Ytgkagigagcamoaa


/-
Plain mathematics on the least turn of a word, and on the Lyndon word that follows one, by places. No program is named here.
-/
namespace Go.Proofs.Ytgkagigagcamoaa
namespace Lm

/-- What the search for the front of a word's turn (twice over) tells: see 'least_next', 'least_last'. -/
theorem least_in {f : Nat → Nat} {n i p e : Nat} (hi : i < n) (h : Dn (fun x => f ((i + x) % n)) (2 * n - i) p e) :
    p ≤ n ∧ (∀ j, i ≤ j → j < i + e / p * p → i + e < 2 * n → Lt f n (i + e / p * p) j) ∧
    (∀ j, i ≤ j → j < i + e / p * p → j < n → i + e = 2 * n → ¬ Lt f n j i) := by
  have hp0 := h.p0
  have hpn : p ≤ n := by
    by_cases hx : p ≤ n
    · exact hx
    · obtain ⟨j, hj, ha, hl⟩ := h.lyn.2 n (by omega) (by omega)
      simp only [] at hl
      rw [show i + (n + j) = i + j + n by omega, Nat.add_mod_right] at hl
      omega
  obtain ⟨h1, h2, h3, h4, h5, h6⟩ := h.rest
  have hen := h.en
  have hmod := h.mod
  have hb : ∀ k, k < e / p * p → ∀ x, k % p + x < p → k + x < e / p * p ∧ (k + x) % p = k % p + x := by
    intro k hk x hx
    have hk1 : k / p < e / p := Nat.div_lt_of_lt_mul (by rw [Nat.mul_comm]; exact hk)
    have hk2 : (k / p + 1) * p ≤ e / p * p := Nat.mul_le_mul_right p hk1
    rw [Nat.add_mul, Nat.one_mul] at hk2
    have hdm := Nat.div_add_mod k p
    rw [Nat.mul_comm] at hdm
    refine ⟨by omega, ?_⟩
    rw [show k + x = k / p * p + (k % p + x) by omega, mod_add _ _ _ hx]
  generalize e / p * p = b at *
  have hgt : ∀ j, i ≤ j → j < i + b → (j - i) % p ≠ 0 → ∃ x, x < p ∧ (∀ y, y ≤ x → (j - i) % p + y < p) ∧ (∀ y, y < x → f ((i + y) % n) = f ((j + y) % n)) ∧ f ((i + x) % n) < f ((j + x) % n) := by
    intro j hj1 hj2 hr
    have hlt := Nat.mod_lt (j - i) hp0
    obtain ⟨x, hx, ha, hl⟩ := h.lyn.2 ((j - i) % p) (by omega) hlt
    simp only [] at ha hl
    have hz : ∀ y, (j - i) % p + y < p → f ((j + y) % n) = f ((i + ((j - i) % p + y)) % n) := by
      intro y hy
      obtain ⟨g1, g2⟩ := hb (j - i) (by omega) y hy
      have := hmod (j - i + y) (by omega)
      rw [show i + (j - i + y) = j + y by omega, g2] at this
      exact this
    refine ⟨x, by omega, fun y hy => by omega, fun y hy => ?_, ?_⟩
    · rw [hz y (by omega)]; exact ha y hy
    · rw [hz x (by omega)]; exact hl
  refine ⟨hpn, fun j hj1 hj2 h2n => ?_, fun j hj1 hj2 hjn h2n => ?_⟩
  · have hf := h6 (by omega)
    by_cases hr : (j - i) % p = 0
    · have hz : ∀ y, y < p → f ((j + y) % n) = f ((i + y) % n) := by
        intro y hy
        obtain ⟨g1, g2⟩ := hb (j - i) (by omega) y (by omega)
        have := hmod (j - i + y) (by omega)
        rw [show i + (j - i + y) = j + y by omega, g2, hr, Nat.zero_add] at this
        exact this
      refine ⟨e - b, by omega, fun x hx => ?_, ?_⟩
      · rw [hz x (by omega), show i + b + x = i + (b + x) by omega]; exact h5 x hx
      · rw [hz _ h2, show i + b + (e - b) = i + e by omega]; exact hf
    · obtain ⟨x, hxp, hy, ha, hl⟩ := hgt j hj1 hj2 hr
      by_cases hq : x < e - b
      · refine ⟨x, by omega, fun y hy' => ?_, ?_⟩
        · rw [show i + b + y = i + (b + y) by omega, h5 y (by omega)]; exact ha y hy'
        · rw [show i + b + x = i + (b + x) by omega, h5 x hq]; exact hl
      · refine ⟨e - b, by omega, fun y hy' => ?_, ?_⟩
        · rw [show i + b + y = i + (b + y) by omega, h5 y hy']; exact ha y (by omega)
        · rw [show i + b + (e - b) = i + e by omega]
          by_cases hw : e - b = x
          · rw [hw] at hf ⊢; omega
          · have := ha (e - b) (by omega); omega
  · by_cases hr : (j - i) % p = 0
    · rintro ⟨d, hd, ha, hl⟩
      have h7 := hmod (j - i + d) (by omega)
      have h8 := hmod d (by omega)
      rw [show i + (j - i + d) = j + d by omega, Nat.add_mod (j - i) d, hr, Nat.zero_add, Nat.mod_mod] at h7
      omega
    · obtain ⟨x, hxp, hy, ha, hl⟩ := hgt j hj1 hj2 hr
      exact fun hc => Lt.asymm ⟨x, by omega, ha, hl⟩ hc
theorem least_step {f : Nat → Nat} {n i p e : Nat} (hi : i < n) (hbef : ∀ j, j < i → Lt f n i j) (h : Dn (fun x => f ((i + x) % n)) (2 * n - i) p e) :
    (i + e / p * p < n → ∀ j, j < i + e / p * p → Lt f n (i + e / p * p) j) ∧ (n ≤ i + e / p * p → ∀ j, j < n → ¬ Lt f n j i) := by
  obtain ⟨h1, h2, h3⟩ := least_in hi h
  obtain ⟨g1, g2, g3, g4, g5, g6⟩ := h.rest
  have hen := h.en
  have hp0 := h.p0
  generalize e / p * p = b at *
  constructor
  · intro hb j hj
    have h2n : i + e < 2 * n := by omega
    by_cases hji : j < i
    · exact (h2 i (by omega) (by omega) h2n).trans (hbef j hji)
    · exact h2 j (by omega) hj h2n
  · intro hb j hj
    by_cases h2n : i + e = 2 * n
    · by_cases hji : j < i
      · exact fun hc => (hbef j hji).asymm hc
      · exact h3 j (by omega) (by omega) hj h2n
    · exfalso
      by_cases hk : i + b - n < i
      · have := (h2 i (by omega) (by omega) (by omega)).trans (hbef (i + b - n) hk)
        rw [show i + b = (i + b - n) + n by omega] at this
        have := this.less
        rw [show i + b - n + n - n = i + b - n by omega] at this
        exact this.irrefl
      · have := h2 (i + b - n) (by omega) (by omega) (by omega)
        rw [show i + b = (i + b - n) + n by omega] at this
        have := this.less
        rw [show i + b - n + n - n = i + b - n by omega] at this
        exact this.irrefl

/-- The least turn is a Lyndon word where the word is no repetition. -/
theorem least_lyn {f h : Nat → Nat} {n i d : Nat} (hn : 0 < n) (hmin : ∀ j, j < n → ¬ Lt f n j i) (hh : ∀ x, x < n → h x = f ((i + x) % n)) (hd : Wm.Root f n d) : LynF h n ↔ d = n := by
  have hdn := hd.le hn
  have hd0 := hd.pos
  have hlt : ∀ k, Lt h n 0 k ↔ Lt f n i (i + k) := by
    intro k
    have e1 : ∀ x, h ((k + x) % n) = f ((i + k + x) % n) := fun x => by
      rw [hh _ (Nat.mod_lt _ hn)]
      congr 1
      rw [show i + k + x = i + (k + x) by omega, Nat.add_mod i (k + x)]
      rw [Nat.add_mod i ((k + x) % n), Nat.mod_mod]
    have e0 : ∀ x, h ((0 + x) % n) = f ((i + x) % n) := fun x => by
      rw [hh _ (Nat.mod_lt _ hn)]
      congr 1
      rw [Nat.zero_add, Nat.add_mod i x, Nat.add_mod i (x % n), Nat.mod_mod]
    constructor
    · rintro ⟨c, hc, ha, hl⟩
      refine ⟨c, hc, fun x hx => ?_, ?_⟩
      · rw [← e0, ← e1]; exact ha x hx
      · rw [← e0, ← e1]; exact hl
    · rintro ⟨c, hc, ha, hl⟩
      refine ⟨c, hc, fun x hx => ?_, ?_⟩
      · rw [e0, e1]; exact ha x hx
      · rw [e0, e1]; exact hl
  rw [lyn_turns hn]
  constructor
  · intro hl
    by_cases hx : d = n
    · exact hx
    · exfalso
      obtain ⟨c, hc, _, hm⟩ := (hlt d).1 (hl d hd0 (by omega))
      have hm1 := hd.1.2.2.mod ((i + c) % n) (Nat.mod_lt _ hn)
      have hm2 := hd.1.2.2.mod ((i + d + c) % n) (Nat.mod_lt _ hn)
      rw [Nat.mod_mod_of_dvd _ hd.1.2.1] at hm1 hm2
      rw [show i + d + c = i + c + d by omega, Nat.add_mod_right] at hm2
      rw [show i + d + c = i + c + d by omega] at hm
      omega
  · rintro rfl k h0 hk
    rw [hlt]
    by_cases hx : Lt f d i (i + k)
    · exact hx
    · exfalso
      have hy : ¬ Lt f d (i + k) i := by
        intro hc
        by_cases hq : i + k < d
        · exact hmin _ hq hc
        · refine hmin ((i + k) % d) (Nat.mod_lt _ hn) ?_
          obtain ⟨c, hc1, ha, hl⟩ := hc
          refine ⟨c, hc1, fun x hx => ?_, ?_⟩
          · rw [Nat.add_mod, Nat.mod_mod, ← Nat.add_mod]; exact ha x hx
          · rw [Nat.add_mod, Nat.mod_mod, ← Nat.add_mod]; exact hl
      have hs := lt_or_same hx hy
      let T : Nat → Nat := fun x => f (x % d)
      have hT : ∀ x, T (x + d) = T x := fun x => by show f ((x + d) % d) = f (x % d); rw [Nat.add_mod_right]
      have hk2 : ∀ x, T (x + k) = T x := by
        intro x
        -- x ≡ i + y with y = (x + (d - i % d)) % d
        have hid := Nat.mod_lt i hn
        have e1 : (i + (x + (d - i % d)) % d) % d = x % d := by
          rw [Nat.add_mod, Nat.mod_mod, ← Nat.add_mod]
          have : i + (x + (d - i % d)) = x + (i / d + 1) * d := by
            have := Nat.div_add_mod i d
            rw [Nat.add_mul, Nat.one_mul, Nat.mul_comm]
            omega
          rw [this, Nat.add_mul_mod_self_right]
        have h3 := hs ((x + (d - i % d)) % d) (Nat.mod_lt _ hn)
        rw [e1] at h3
        show f ((x + k) % d) = f (x % d)
        rw [h3]
        congr 1
        rw [show i + k + (x + (d - i % d)) % d = (i + (x + (d - i % d)) % d) + k by omega, Nat.add_mod, Nat.add_mod (i + _) k, e1]
      have p1 : Wm.Per T (3 * d) k := fun x _ => (hk2 x).symm
      have p2 : Wm.Per T (3 * d) d := fun x _ => (hT x).symm
      have hg := Wm.fine (k + d) k d (3 * d) (Nat.le_refl _) h0 hn p1 p2 (by omega)
      have hgk : Nat.gcd k d ≤ k := Nat.le_of_dvd h0 (Nat.gcd_dvd_left _ _)
      have hg0 : 0 < Nat.gcd k d := Nat.gcd_pos_of_pos_left _ h0
      have : Wm.Rt f d (Nat.gcd k d) := by
        refine ⟨hg0, Nat.gcd_dvd_right _ _, fun x hx => ?_⟩
        have := hg x (by omega)
        show f x = f (x + _)
        have e1 : T x = f x := by show f (x % d) = f x; rw [Nat.mod_eq_of_lt (by omega)]
        have e2 : T (x + Nat.gcd k d) = f (x + Nat.gcd k d) := by show f (_ % d) = f _; rw [Nat.mod_eq_of_lt (by omega)]
        rw [← e1, ← e2]; exact this
      have := hd.2 _ this
      omega

/-- Where the m-th number is the last of the first n that is less than 'last' in the repetition of a Lyndon word: the front with one more there is the Lyndon word that follows. -/
theorem next_great {f h : Nat → Nat} {p m : Nat} (hp : LynF f p) (hm : 0 < m) (hh : ∀ i, i < m - 1 → h i = f (i % p)) (hl : h (m - 1) = f ((m - 1) % p) + 1) : LynF h m ∧ Sl f p h m := by
  have hp0 := hp.1
  constructor
  · have := lyn_step hp (m - 1) (h (m - 1)) (by omega)
    rw [show m - 1 + 1 = m by omega] at this
    refine this.congr fun i hi => ?_
    by_cases hx : i < m - 1
    · rw [if_pos hx, hh i hx]
    · rw [if_neg hx, show i = m - 1 by omega]
  · by_cases hx : m - 1 < p
    · refine ⟨m - 1, by omega, by omega, fun i hi => ?_, .inr ⟨hx, ?_⟩⟩
      · rw [hh i hi, Nat.mod_eq_of_lt (by omega)]
      · rw [hl, Nat.mod_eq_of_lt hx]; omega
    · exact ⟨p, Nat.le_refl _, by omega, fun i hi => by rw [hh i (by omega), Nat.mod_eq_of_lt hi], .inl rfl⟩
theorem after_differs {f g : Nat → Nat} {p q : Nat} (hq : LynF g q) (hp : 0 < p) (hs : Sl f p g q) : ∃ d, d < q ∧ (∀ i, i < d → g i = f (i % p)) ∧ f (d % p) < g d := by
  obtain ⟨d, hd, hdq, ha, hl⟩ := hs
  rcases hl with rfl | ⟨hd2, hl⟩
  · -- f is a front of g: look for the first place where g leaves the repetition
    have key : ∀ k, k ≤ q → (∀ i, i < k → g i = f (i % d)) ∨ ∃ c, c < k ∧ (∀ i, i < c → g i = f (i % d)) ∧ g c ≠ f (c % d) := by
      intro k
      induction k with
      | zero => exact fun _ => .inl fun i hi => by omega
      | succ k ih =>
        intro hk
        rcases ih (by omega) with h | ⟨c, hc, h1, h2⟩
        · by_cases hx : g k = f (k % d)
          · refine .inl fun i hi => ?_
            by_cases hy : i < k
            · exact h i hy
            · rw [show i = k by omega, hx]
          · exact .inr ⟨k, by omega, h, hx⟩
        · exact .inr ⟨c, by omega, h1, h2⟩
    rcases key q (Nat.le_refl _) with h | ⟨c, hc, h1, h2⟩
    · exfalso
      obtain ⟨j, hj, _, hlt⟩ := hq.2 d hp hdq
      rw [h j (by omega), h (d + j) hj, Nat.add_mod_left] at hlt
      omega
    · refine ⟨c, hc, h1, ?_⟩
      by_cases hlt : f (c % d) < g c
      · exact hlt
      · exfalso
        have hcd : d ≤ c := by
          by_cases hx : d ≤ c
          · exact hx
          · have := ha c (by omega)
            rw [Nat.mod_eq_of_lt (by omega)] at h2
            omega
        obtain ⟨j, hj, hb, hlt2⟩ := hq.2 d hp hdq
        by_cases hx : d + j < c
        · rw [h1 j (by omega), h1 (d + j) hx, Nat.add_mod_left] at hlt2
          omega
        · have e1 : g (c - d) = f (c % d) := by rw [h1 _ (by omega), Nat.mod_eq_sub_mod hcd]
          by_cases hy : j = c - d
          · rw [hy, show d + (c - d) = c by omega] at hlt2
            omega
          · have := hb (c - d) (by omega)
            rw [show d + (c - d) = c by omega] at this
            omega
  · refine ⟨d, hdq, fun i hi => ?_, ?_⟩
    · rw [Nat.mod_eq_of_lt (by omega)]; exact (ha i hi).symm
    · rw [Nat.mod_eq_of_lt hd2]; exact hl
theorem next_least {f h g : Nat → Nat} {p m q last n : Nat} (hp : 0 < p) (hm : 0 < m) (hh : ∀ i, i < m - 1 → h i = f (i % p)) (hl : h (m - 1) = f ((m - 1) % p) + 1)
    (htop : ∀ i, m ≤ i → i < n → f (i % p) = last) (hq : LynF g q) (hqn : q ≤ n) (hlast : ∀ i, i < q → g i ≤ last) (hs : Sl f p g q) : ¬ Sl g q h m := by
  obtain ⟨d, hd, ha, hlt⟩ := after_differs hq hp hs
  have hdm : d ≤ m - 1 := by
    by_cases hx : d ≤ m - 1
    · exact hx
    · have h1 := htop d (by omega) (by omega)
      have h2 := hlast d hd
      omega
  rintro ⟨c, hc, hcm, hb, hr⟩
  by_cases hx : c < d
  · rcases hr with rfl | ⟨_, hr⟩
    · omega
    · rw [ha c hx, hh c (by omega)] at hr; omega
  · by_cases hy : c = d
    · subst hy
      rcases hr with rfl | ⟨_, hr⟩
      · omega
      · by_cases hz : c < m - 1
        · rw [hh c hz] at hr; omega
        · rw [show m - 1 = c by omega] at hl; omega
    · have := hb d (by omega)
      rw [hh d (by omega)] at this
      omega
theorem next_none {f g : Nat → Nat} {p q last n : Nat} (hp : 0 < p) (htop : ∀ i, i < n → f (i % p) = last) (hq : LynF g q) (hqn : q ≤ n) (hlast : ∀ i, i < q → g i ≤ last) : ¬ Sl f p g q := by
  intro hs
  obtain ⟨d, hd, ha, hlt⟩ := after_differs hq hp hs
  have h1 := htop d (by omega)
  have h2 := hlast d hd
  omega
end Lm
end Go.Proofs.Ytgkagigagcamoaa


/-
Plain mathematics on lists of Lyndon words: words as lists of bytes, their order, the one way to cut a word into Lyndon words none of which is less than the following one. No program is named here.
-/
namespace Go.Proofs.Ytgkagigagcamoaa
namespace Lm

/-- The byte at place i, as a number. -/
def bn (a : List UInt8) (i : Nat) : Nat := (a.getD i 0).toNat
theorem bn_cons (c : UInt8) (a : List UInt8) (i : Nat) : bn (c :: a) (i + 1) = bn a i := rfl
theorem bn_lt {a : List UInt8} {i : Nat} (h : i < a.length) : bn a i = a[i].toNat := by unfold bn; rw [List.getD_eq_getElem?_getD, List.getElem?_eq_getElem h, Option.getD_some]
theorem bn_app_l {a b : List UInt8} {i : Nat} (h : i < a.length) : bn (a ++ b) i = bn a i := by
  unfold bn; rw [List.getD_eq_getElem?_getD, List.getElem?_append_left h, ← List.getD_eq_getElem?_getD]
theorem bn_app_r {a b : List UInt8} (i : Nat) : bn (a ++ b) (a.length + i) = bn b i := by
  unfold bn; rw [List.getD_eq_getElem?_getD, List.getElem?_append_right (by omega), ← List.getD_eq_getElem?_getD]; congr 2; omega
theorem bn_drop (a : List UInt8) (k i : Nat) : bn (a.drop k) i = bn a (k + i) := by
  unfold bn; rw [List.getD_eq_getElem?_getD, List.getElem?_drop, ← List.getD_eq_getElem?_getD]
theorem bn_take {a : List UInt8} {k i : Nat} (h : i < k) : bn (a.take k) i = bn a i := by
  unfold bn; rw [List.getD_eq_getElem?_getD, List.getElem?_take_of_lt h, ← List.getD_eq_getElem?_getD]
theorem bn_ext {a b : List UInt8} (hl : a.length = b.length) (h : ∀ i, i < a.length → bn a i = bn b i) : a = b := by
  refine List.ext_getElem hl fun i h1 h2 => ?_
  have := h i h1
  rw [bn_lt h1, bn_lt h2] at this
  exact UInt8.toNat_inj.1 this
theorem lt_iff : ∀ a b : List UInt8, a < b ↔ Sl (bn a) a.length (bn b) b.length
  | [], [] => ⟨fun h => absurd h (List.lt_irrefl _), fun ⟨d, _, h, _⟩ => by simp at h⟩
  | [], c :: b => ⟨fun _ => ⟨0, by simp, by simp, fun i hi => by omega, .inl rfl⟩, fun _ => List.nil_lt_cons _ _⟩
  | c :: a, [] => ⟨fun h => absurd h (List.not_lt_nil _), fun ⟨d, _, h, _⟩ => by simp at h⟩
  | c :: a, e :: b => by
    rw [List.cons_lt_cons_iff, lt_iff a b]
    constructor
    · rintro (h | ⟨rfl, d, h1, h2, h3, h4⟩)
      · exact ⟨0, by simp, by simp, fun i hi => by omega, .inr ⟨by simp, UInt8.lt_iff_toNat_lt.1 h⟩⟩
      · refine ⟨d + 1, by simp; omega, by simp; omega, fun i hi => ?_, ?_⟩
        · cases i with
          | zero => rfl
          | succ i => rw [bn_cons, bn_cons]; exact h3 i (by omega)
        · simp only [List.length_cons, bn_cons]
          omega
    · rintro ⟨d, h1, h2, h3, h4⟩
      cases d with
      | zero =>
        simp only [List.length_cons] at h4
        rcases h4 with h4 | ⟨_, h4⟩
        · omega
        · exact .inl (UInt8.lt_iff_toNat_lt.2 h4)
      | succ d =>
        simp only [List.length_cons, bn_cons] at h1 h2 h4
        refine .inr ⟨UInt8.toNat_inj.1 (h3 0 (by omega)), d, by omega, by omega, fun i hi => ?_, by omega⟩
        have := h3 (i + 1) (by omega)
        rwa [bn_cons, bn_cons] at this

def Lyn (w : List UInt8) : Prop := LynF (bn w) w.length
theorem Lyn.ne {w : List UInt8} (h : Lyn w) : w ≠ [] := by rintro rfl; exact absurd h.1 (by simp)
theorem Lyn.end_ {w u v : List UInt8} (h : Lyn w) (e : w = u ++ v) (hu : u ≠ []) (hv : v ≠ []) : w < v := by
  have h1 := List.length_pos_iff.2 hu
  have h2 := List.length_pos_iff.2 hv
  have hl : w.length = u.length + v.length := by rw [e, List.length_append]
  obtain ⟨j, hj, ha, hlt⟩ := h.2 u.length h1 (by omega)
  rw [lt_iff]
  refine ⟨j, by omega, by omega, fun i hi => ?_, .inr ⟨by omega, ?_⟩⟩
  · rw [ha i hi, e, bn_app_r]
  · rw [← bn_app_r (a := u) (b := v) j, ← e]; exact hlt
theorem lyn_of_ends {w : List UInt8} (hw : w ≠ []) (h : ∀ u v, w = u ++ v → u ≠ [] → v ≠ [] → w < v) : Lyn w := by
  refine ⟨List.length_pos_iff.2 hw, fun k h0 hk => ?_⟩
  have := h (w.take k) (w.drop k) (List.take_append_drop k w).symm (by rw [Ne, ← List.length_eq_zero_iff, List.length_take]; omega) (by rw [Ne, ← List.length_eq_zero_iff, List.length_drop]; omega)
  rw [lt_iff] at this
  obtain ⟨d, h1, h2, h3, h4⟩ := this
  rw [List.length_drop] at h2
  refine ⟨d, by omega, fun i hi => ?_, ?_⟩
  · rw [h3 i hi, bn_drop]
  · rw [bn_drop] at h4; omega

theorem irr (a : List UInt8) : ¬ a < a := List.lt_irrefl a
theorem lt_tr {a b c : List UInt8} (h : a < b) (g : b < c) : a < c := List.lt_trans h g
theorem le_lt {a b c : List UInt8} (h : ¬ b < a) (g : b < c) : a < c := by
  have h : a ≤ b := h
  exact List.lt_of_le_of_lt h g
theorem lt_le {a b c : List UInt8} (h : a < b) (g : ¬ c < b) : a < c := by
  by_cases hx : a < c
  · exact hx
  · exact absurd (le_lt hx h) g
theorem le_tr {a b c : List UInt8} (h : ¬ b < a) (g : ¬ c < b) : ¬ c < a := fun hc => g (lt_le hc h)
theorem pre_le {a : List UInt8} (b : List UInt8) : ¬ a ++ b < a := by
  rw [lt_iff]
  rintro ⟨d, h1, h2, h3, h4⟩
  rw [List.length_append] at h1 h4
  rw [bn_app_l h2] at h4
  omega
theorem pre_lt (a : List UInt8) {b : List UInt8} (hb : b ≠ []) : a < a ++ b := by
  rw [lt_iff]
  have := List.length_pos_iff.2 hb
  exact ⟨a.length, Nat.le_refl _, by rw [List.length_append]; omega, fun i hi => (bn_app_l hi).symm, .inl rfl⟩
theorem take_le (a : List UInt8) (k : Nat) : ¬ a < a.take k := by
  have := pre_le (a := a.take k) (a.drop k)
  rwa [List.take_append_drop] at this
theorem app_lt_app (a : List UInt8) {b c : List UInt8} (h : b < c) : a ++ b < a ++ c := by
  induction a with
  | nil => exact h
  | cons x a ih => exact List.cons_lt_cons_iff.2 (.inr ⟨rfl, ih⟩)
/-- A word that is less than one that it is no front of stays less whatever follows. -/
theorem lt_app {a b : List UInt8} (h : a < b) (hn : ¬ ∃ t, b = a ++ t) (u v : List UInt8) : a ++ u < b ++ v := by
  rw [lt_iff] at h ⊢
  obtain ⟨d, h1, h2, h3, h4⟩ := h
  rcases h4 with rfl | ⟨h4, h5⟩
  · exfalso
    refine hn ⟨b.drop a.length, ?_⟩
    have : a = b.take a.length := by
      refine bn_ext (by rw [List.length_take]; omega) fun i hi => ?_
      rw [bn_take hi]; exact h3 i hi
    conv => rhs; rw [this]
    rw [List.length_take, Nat.min_eq_left (Nat.le_of_lt h2), List.take_append_drop]
  · refine ⟨d, by rw [List.length_append]; omega, by rw [List.length_append]; omega, fun i hi => ?_, .inr ⟨by rw [List.length_append]; omega, ?_⟩⟩
    · rw [bn_app_l (by omega), bn_app_l (by omega)]; exact h3 i hi
    · rw [bn_app_l h4, bn_app_l h2]; exact h5

theorem lyn_join {a b : List UInt8} (ha : Lyn a) (hb : Lyn b) : Lyn (a ++ b) ↔ a < b := by
  constructor
  · intro h
    exact lt_tr (pre_lt a hb.ne) (h.end_ rfl ha.ne hb.ne)
  · intro h
    have h1 : a ++ b < b := by
      by_cases hx : ∃ t, b = a ++ t
      · obtain ⟨t, ht⟩ := hx
        have htn : t ≠ [] := by rintro rfl; rw [List.append_nil] at ht; rw [ht] at h; exact irr _ h
        have := app_lt_app a (hb.end_ ht ha.ne htn)
        rwa [← ht] at this
      · have := lt_app h hx b []
        rwa [List.append_nil] at this
    refine lyn_of_ends (by simp [ha.ne]) fun u v e hu hv => ?_
    rcases List.append_eq_append_iff.1 e with ⟨t, rfl, rfl⟩ | ⟨t, rfl, rfl⟩
    · -- u = a ++ t, b = t ++ v
      by_cases ht : t = []
      · subst ht; exact h1
      · exact lt_tr h1 (hb.end_ rfl ht hv)
    · -- a = u ++ t, v = t ++ b
      by_cases ht : t = []
      · subst ht; simpa using h1
      · have hat := ha.end_ rfl hu ht
        refine lt_app hat ?_ b b
        rintro ⟨s, hs⟩
        have := congrArg List.length hs
        simp only [List.length_append] at this
        have := List.length_pos_iff.2 hu
        omega

/-- Lyndon words, none less than a following one, that together are s. -/
structure Fact (s : List UInt8) (ws : List (List UInt8)) : Prop where
  lyn : ∀ w, w ∈ ws → Lyn w
  falls : ws.Pairwise fun a b => ¬ a < b
  all : ws.flatten = s
theorem end_small (w : List UInt8) : ∀ ws : List (List UInt8), (∀ v, v ∈ ws → ¬ w < v) → ∀ z t, z ≠ [] → ws.flatten = z ++ t → ∃ x y, z = x ++ y ∧ y ≠ [] ∧ ¬ w < y
  | [], _, z, t, hz, e => by simp at e; exact absurd e.1 hz
  | v :: vs, h, z, t, hz, e => by
    rw [List.flatten_cons] at e
    rcases List.append_eq_append_iff.1 e with ⟨a, rfl, ha⟩ | ⟨a, rfl, ha⟩
    · by_cases hn : a = []
      · subst hn
        refine ⟨[], v, by simp, by simpa using hz, h v (List.mem_cons_self)⟩
      · obtain ⟨x, y, rfl, hy, hl⟩ := end_small w vs (fun u hu => h u (List.mem_cons_of_mem _ hu)) a t hn ha
        exact ⟨v ++ x, y, by simp, hy, hl⟩
    · exact ⟨[], z, rfl, hz, le_tr (pre_le a) (h _ List.mem_cons_self)⟩
theorem Fact.longest {w s x t : List UInt8} {ws : List (List UInt8)} (h : Fact s (w :: ws)) (hx : Lyn x) (e : s = x ++ t) : x.length ≤ w.length := by
  by_cases hle : x.length ≤ w.length
  · exact hle
  · exfalso
    have hall := h.all
    rw [List.flatten_cons, e] at hall
    have hf := List.pairwise_cons.1 h.falls
    rcases List.append_eq_append_iff.1 hall with ⟨a, rfl, ha⟩ | ⟨a, rfl, ha⟩
    · have hn : a ≠ [] := by rintro rfl; simp at hle
      obtain ⟨u, y, rfl, hy, hl⟩ := end_small w ws hf.1 a t hn ha
      have h1 := hx.end_ (u := w ++ u) (v := y) (by simp) (by simp [(h.lyn w List.mem_cons_self).ne]) hy
      exact hl (lt_tr (pre_lt w (by simp [hy])) h1)
    · simp only [List.length_append] at hle; omega
theorem Fact.tail {w s : List UInt8} {ws : List (List UInt8)} (h : Fact s (w :: ws)) : Fact ws.flatten ws :=
  ⟨fun v hv => h.lyn v (List.mem_cons_of_mem _ hv), (List.pairwise_cons.1 h.falls).2, rfl⟩
theorem Fact.unique : ∀ {ws vs : List (List UInt8)} {s : List UInt8}, Fact s ws → Fact s vs → ws = vs
  | [], [], _, _, _ => rfl
  | [], v :: vs, s, h, k => by
    have h1 := h.all; have h2 := k.all
    rw [← h1] at h2
    simp at h2
    exact absurd h2.1 (k.lyn v List.mem_cons_self).ne
  | w :: ws, [], s, h, k => by
    have h1 := h.all; have h2 := k.all
    rw [← h2] at h1
    simp at h1
    exact absurd h1.1 (h.lyn w List.mem_cons_self).ne
  | w :: ws, v :: vs, s, h, k => by
    have h1 := h.all; have h2 := k.all
    rw [List.flatten_cons] at h1 h2
    have l1 := h.longest (k.lyn v List.mem_cons_self) h2.symm
    have l2 := k.longest (h.lyn w List.mem_cons_self) h1.symm
    have he := List.append_inj (h1.trans h2.symm) (by omega)
    obtain ⟨rfl, hf⟩ := he
    have hk := k.tail
    rw [← hf] at hk
    rw [Fact.unique h.tail hk]
theorem Fact.last_le : ∀ {ws : List (List UInt8)} {s : List UInt8} {l u v : List UInt8}, Fact s ws → ws.getLast? = some l → s = u ++ v → v ≠ [] → ¬ v < l
  | [], s, l, u, v, _, hl, _, _ => by simp at hl
  | w :: ws, s, l, u, v, h, hl, e, hv => by
    have hall := h.all
    rw [List.flatten_cons, e] at hall
    have hf := List.pairwise_cons.1 h.falls
    have hlm : l = w ∨ l ∈ ws := List.mem_cons.1 (List.mem_of_getLast? hl)
    have hle : ¬ w < l := by
      rcases hlm with rfl | hm
      · exact irr _
      · exact hf.1 l hm
    rcases List.append_eq_append_iff.1 hall with ⟨a, rfl, ha⟩ | ⟨a, rfl, ha⟩
    · -- u = w ++ a, flatten ws = a ++ v
      cases ws with
      | nil => simp at ha; exact absurd ha.2 hv
      | cons w2 ws =>
        refine Fact.last_le h.tail ?_ ha hv
        rw [List.getLast?_cons_cons] at hl
        exact hl
    · -- w = u ++ a, v = a ++ flatten ws
      by_cases hn : a = []
      · subst hn
        simp only [List.nil_append] at ha
        cases ws with
        | nil => simp at ha; exact absurd ha hv
        | cons w2 ws =>
          rw [List.getLast?_cons_cons] at hl
          exact Fact.last_le h.tail hl (u := []) (by simpa using ha.symm) hv
      · rw [ha]
        refine le_tr hle (le_tr ?_ (pre_le _))
        by_cases hu : u = []
        · subst hu; exact irr _
        · exact fun hc => irr _ (lt_tr hc ((h.lyn _ List.mem_cons_self).end_ rfl hu hn))
theorem Fact.many {s : List UInt8} {ws : List (List UInt8)} (h : Fact s ws) : ws.length ≤ s.length := by
  have key : ∀ l : List (List UInt8), (∀ w, w ∈ l → Lyn w) → l.length ≤ l.flatten.length := by
    intro l
    induction l with
    | nil => simp
    | cons a l ih =>
      intro hl
      have h1 := ih fun w hw => hl w (List.mem_cons_of_mem _ hw)
      have h2 := List.length_pos_iff.2 (hl a List.mem_cons_self).ne
      rw [List.flatten_cons, List.length_append, List.length_cons]
      omega
  rw [← h.all]
  exact key ws h.lyn
theorem fact_nil : Fact [] [] := ⟨fun w hw => by simp at hw, List.Pairwise.nil, rfl⟩
theorem Fact.more {s w : List UInt8} {ws : List (List UInt8)} (h : Fact s ws) (hw : Lyn w) (hf : ∀ a, a ∈ ws → ¬ a < w) : Fact (s ++ w) (ws ++ [w]) := by
  refine ⟨fun v hv => ?_, ?_, ?_⟩
  · rcases List.mem_append.1 hv with hv | hv
    · exact h.lyn v hv
    · rw [List.mem_singleton.1 hv]; exact hw
  · rw [List.pairwise_append]
    refine ⟨h.falls, List.pairwise_singleton _ _, fun a ha b hb => ?_⟩
    rw [List.mem_singleton.1 hb]; exact hf a ha
  · rw [List.flatten_append, h.all]; simp

end Lm
end Go.Proofs.Ytgkagigagcamoaa


/-
Plain mathematics on the ends of a word in their order: what two of them have in common, the unlike words in a word, the longest word that stands twice. No program is named here.
-/
namespace Go.Proofs.Ytgkagigagcamoaa
namespace Sm
open Lm

theorem cons_lt {a b : UInt8} {x y : List UInt8} : a :: x < b :: y ↔ a < b ∨ a = b ∧ x < y := List.cons_lt_cons_iff
theorem u8_tri {a b : UInt8} (h1 : ¬ a < b) (h2 : ¬ b < a) : a = b := by
  rw [UInt8.lt_iff_toNat_lt] at h1 h2
  exact UInt8.toNat_inj.1 (by omega)
/-- Whatever lies between a word and its front has that front. -/
theorem sandwich : ∀ {y m z : List UInt8}, y <+: z → ¬ m < y → ¬ z < m → y <+: m
  | [], m, z, _, _, _ => List.nil_prefix
  | a :: y, [], z, _, h, _ => absurd (List.nil_lt_cons _ _) h
  | a :: y, b :: m, [], hp, _, _ => by simp at hp
  | a :: y, b :: m, c :: z, hp, h1, h2 => by
    rw [List.cons_prefix_cons] at hp
    obtain ⟨rfl, hp⟩ := hp
    rw [cons_lt] at h1 h2
    have e : a = b := u8_tri (fun h => h2 (.inl h)) (fun h => h1 (.inl h))
    subst e
    rw [List.cons_prefix_cons]
    exact ⟨rfl, sandwich hp (fun h => h1 (.inr ⟨rfl, h⟩)) (fun h => h2 (.inr ⟨rfl, h⟩))⟩
theorem tri {a b : List UInt8} (h1 : ¬ a < b) (h2 : ¬ b < a) : a = b := List.le_antisymm h2 h1
theorem as_ {a b : List UInt8} (h : a < b) : ¬ b < a := fun k => irr a (lt_tr h k)
theorem pfx_le {y z : List UInt8} (h : y <+: z) : ¬ z < y := by obtain ⟨t, rfl⟩ := h; exact pre_le t
/-- A front that the lesser word has not is greater than the lesser word. -/
theorem pfx_gt {y x z : List UInt8} (h : y <+: z) (hl : ¬ z < x) (hn : ¬ y <+: x) : x < y := by
  by_cases hx : x < y
  · exact hx
  · exact absurd (sandwich h hx hl) hn
theorem take_mono : ∀ {m : Nat} {a b : List UInt8}, ¬ b < a → ¬ b.take m < a.take m
  | 0, a, b, _ => by simp
  | m + 1, [], b, _ => by simp
  | m + 1, a :: x, [], h => absurd (List.nil_lt_cons _ _) h
  | m + 1, a :: x, b :: y, h => by
    rw [cons_lt] at h
    rw [List.take_succ_cons, List.take_succ_cons, cons_lt]
    rintro (k | ⟨rfl, k⟩)
    · exact h (.inl k)
    · exact take_mono (fun hx => h (.inr ⟨rfl, hx⟩)) k

/-- How many bytes two words begin alike with. -/
def lcp : List UInt8 → List UInt8 → Nat
  | a :: x, b :: y => if a = b then lcp x y + 1 else 0
  | _, _ => 0
theorem lcp_pre : ∀ (x y : List UInt8) (n : Nat), n ≤ lcp x y ↔ n ≤ x.length ∧ x.take n <+: y
  | [], y, n => by
    have : lcp [] y = 0 := by cases y <;> rfl
    rw [this]
    simp
  | a :: x, [], n => by
    show n ≤ 0 ↔ _
    cases n with
    | zero => simp
    | succ n => simp
  | a :: x, b :: y, n => by
    show n ≤ (if a = b then lcp x y + 1 else 0) ↔ _
    cases n with
    | zero => simp
    | succ n =>
      rw [List.take_succ_cons, List.cons_prefix_cons]
      by_cases h : a = b
      · rw [if_pos h, Nat.add_le_add_iff_right, lcp_pre x y n]
        simp [h]
      · rw [if_neg h]
        simp [h]
theorem lcp_left (x y : List UInt8) : lcp x y ≤ x.length := ((lcp_pre x y _).1 (Nat.le_refl _)).1
theorem lcp_take (x y : List UInt8) : x.take (lcp x y) <+: y := ((lcp_pre x y _).1 (Nat.le_refl _)).2
theorem lcp_right (x y : List UInt8) : lcp x y ≤ y.length := by
  have h := (lcp_take x y).length_le
  rw [List.length_take, Nat.min_eq_left (lcp_left x y)] at h
  exact h
theorem lcp_same (x y : List UInt8) : x.take (lcp x y) = y.take (lcp x y) := by
  have h := List.prefix_iff_eq_take.1 (lcp_take x y)
  rw [List.length_take, Nat.min_eq_left (lcp_left x y)] at h
  exact h
/-- A word is a front of both just if it is a front of one and no longer than what they have in common. -/
theorem pfx_lcp {p x y : List UInt8} (h : p <+: x) : p <+: y ↔ p.length ≤ lcp x y := by
  have e := List.prefix_iff_eq_take.1 h
  rw [lcp_pre, ← e]
  exact ⟨fun k => ⟨h.length_le, k⟩, fun k => k.2⟩
theorem pfx_lcp' {p x y : List UInt8} (h : p <+: y) : p <+: x ↔ p.length ≤ lcp x y := by
  constructor
  · intro k; exact (pfx_lcp k).1 h
  · intro k
    have e := List.prefix_iff_eq_take.1 h
    rw [e]
    have h1 : y.take p.length <+: y.take (lcp x y) := List.take_prefix_take_left k
    rw [← lcp_same] at h1
    exact h1.trans (List.take_prefix _ _)
theorem lcp_is : ∀ {x y : List UInt8} {n : Nat}, n ≤ x.length → n ≤ y.length → (∀ t, t < n → x.getD t 0 = y.getD t 0) → (n = x.length ∨ n = y.length ∨ x.getD n 0 ≠ y.getD n 0) → lcp x y = n
  | [], y, n, h1, _, _, _ => by
    have : lcp [] y = 0 := by cases y <;> rfl
    rw [this]
    simp at h1; exact h1.symm
  | a :: x, [], n, _, h2, _, _ => by
    show 0 = n
    simp at h2; exact h2.symm
  | a :: x, b :: y, 0, _, _, _, h4 => by
    show (if a = b then lcp x y + 1 else 0) = 0
    simp at h4
    rw [if_neg h4]
  | a :: x, b :: y, n + 1, h1, h2, h3, h4 => by
    have e : a = b := h3 0 (by omega)
    show (if a = b then lcp x y + 1 else 0) = n + 1
    rw [if_pos e, lcp_is (x := x) (y := y) (n := n) (by simpa using h1) (by simpa using h2) (fun t ht => by have := h3 (t + 1) (by omega); simpa using this) (by simpa using h4)]

/-- The places of s in the order of their ends. -/
def SA (s : List UInt8) (L : List Nat) : Prop := L.Perm (List.range s.length) ∧ L.Pairwise (fun a b => s.drop a < s.drop b)
theorem drop_inj {s : List UInt8} {a b : Nat} (ha : a < s.length) (hb : b < s.length) (h : s.drop a = s.drop b) : a = b := by
  have := congrArg List.length h
  simp at this
  omega
theorem sorted_same {α : Type} {R : α → α → Prop} (hR : ∀ a b, R a b → ¬ R b a) (hI : ∀ a, ¬ R a a) : ∀ {L M : List α}, L.Pairwise R → M.Pairwise R → (∀ x, x ∈ L ↔ x ∈ M) → L = M
  | [], [], _, _, _ => rfl
  | [], b :: M, _, _, h => by have := (h b).2 List.mem_cons_self; simp at this
  | a :: L, [], _, _, h => by have := (h a).1 List.mem_cons_self; simp at this
  | a :: L, b :: M, hL, hM, h => by
    rw [List.pairwise_cons] at hL hM
    have e : a = b := by
      rcases List.mem_cons.1 ((h a).1 List.mem_cons_self) with e | e
      · exact e
      · rcases List.mem_cons.1 ((h b).2 List.mem_cons_self) with k | k
        · exact k.symm
        · exact absurd (hL.1 b k) (hR _ _ (hM.1 a e))
    subst e
    rw [sorted_same hR hI hL.2 hM.2 fun x => ?_]
    constructor
    · intro hx
      rcases List.mem_cons.1 ((h x).1 (List.mem_cons_of_mem _ hx)) with e | e
      · subst e; exact absurd (hL.1 x hx) (hI x)
      · exact e
    · intro hx
      rcases List.mem_cons.1 ((h x).2 (List.mem_cons_of_mem _ hx)) with e | e
      · subst e; exact absurd (hM.1 x hx) (hI x)
      · exact e
theorem SA.unique {s : List UInt8} {L M : List Nat} (h : SA s L) (k : SA s M) : L = M :=
  sorted_same (R := fun a b => s.drop a < s.drop b) (fun _ _ h => as_ h) (fun _ => irr _) h.2 k.2 fun x => by rw [h.1.mem_iff, k.1.mem_iff]
def saL (s : List UInt8) : List Nat := (List.range s.length).mergeSort (fun a b => decide (¬ s.drop b < s.drop a))
theorem saL_sa (s : List UInt8) : SA s (saL s) := by
  have hp := List.mergeSort_perm (List.range s.length) (fun a b => decide (¬ s.drop b < s.drop a))
  have hs := List.pairwise_mergeSort (le := fun a b => decide (¬ s.drop b < s.drop a)) (fun a b c h1 h2 => by
    simp only [decide_eq_true_eq] at h1 h2 ⊢
    exact le_tr h1 h2) (fun a b => by
    simp only [Bool.or_eq_true, decide_eq_true_eq]
    by_cases h : s.drop b < s.drop a
    · exact .inr (as_ h)
    · exact .inl h) (List.range s.length)
  refine ⟨hp, ?_⟩
  have hd : (saL s).Pairwise (· ≠ ·) := (hp.pairwise_iff (fun h => Ne.symm h)).2 (List.pairwise_lt_range.imp fun h => by omega)
  refine List.Pairwise.imp_of_mem ?_ (List.Pairwise.and (show (saL s).Pairwise _ from hs) hd)
  intro a b ha hb ⟨h1, h2⟩
  simp only [decide_eq_true_eq] at h1
  have ha' := List.mem_range.1 (hp.mem_iff.1 ha)
  have hb' := List.mem_range.1 (hp.mem_iff.1 hb)
  by_cases h : s.drop a < s.drop b
  · exact h
  · exact absurd (drop_inj ha' hb' (tri h h1)) h2
theorem saL_len (s : List UInt8) : (saL s).length = s.length := by rw [(saL_sa s).1.length_eq, List.length_range]
/-- The place at k in the order; its end. -/
def sa (s : List UInt8) (k : Nat) : Nat := (saL s).getD k 0
def X (s : List UInt8) (k : Nat) : List UInt8 := s.drop (sa s k)
theorem sa_get {s : List UInt8} {k : Nat} (h : k < s.length) : sa s k = (saL s)[k]'(by rw [saL_len]; exact h) := by
  unfold sa
  rw [List.getD_eq_getElem?_getD, List.getElem?_eq_getElem (by rw [saL_len]; exact h), Option.getD_some]
theorem sa_lt {s : List UInt8} {k : Nat} (h : k < s.length) : sa s k < s.length := by
  rw [sa_get h]
  exact List.mem_range.1 ((saL_sa s).1.mem_iff.1 (List.getElem_mem _))
theorem X_len {s : List UInt8} (k : Nat) : (X s k).length = s.length - sa s k := by unfold X; rw [List.length_drop]
theorem X_lt {s : List UInt8} {i k : Nat} (h : i < k) (hk : k < s.length) : X s i < X s k := by
  unfold X
  rw [sa_get (by omega : i < s.length), sa_get hk]
  exact List.pairwise_iff_getElem.1 (saL_sa s).2 i k (by rw [saL_len]; omega) (by rw [saL_len]; omega) h
theorem X_le {s : List UInt8} {i k : Nat} (h : i ≤ k) (hk : k < s.length) : ¬ X s k < X s i := by
  rcases Nat.lt_or_ge i k with h1 | h1
  · exact as_ (X_lt h1 hk)
  · obtain rfl : i = k := by omega
    exact irr _
theorem X_lt_iff {s : List UInt8} {i k : Nat} (hi : i < s.length) (hk : k < s.length) : X s i < X s k ↔ i < k := by
  constructor
  · intro h
    by_cases h1 : i < k
    · exact h1
    · exact absurd h (X_le (by omega) hi)
  · exact fun h => X_lt h hk
theorem sa_inj {s : List UInt8} {i k : Nat} (hi : i < s.length) (hk : k < s.length) (h : sa s i = sa s k) : i = k := by
  have e : X s i = X s k := by unfold X; rw [h]
  have h1 : ¬ i < k := fun hx => irr _ (e ▸ X_lt hx hk)
  have h2 : ¬ k < i := fun hx => irr _ (e ▸ X_lt hx hi)
  omega
theorem rank {s : List UInt8} {p : Nat} (h : p < s.length) : ∃ k, k < s.length ∧ sa s k = p := by
  have hm := (saL_sa s).1.mem_iff.2 (List.mem_range.2 h)
  obtain ⟨k, hk, e⟩ := List.getElem_of_mem hm
  rw [saL_len] at hk
  exact ⟨k, hk, by rw [sa_get hk]; exact e⟩
/-- What the end at k has in common with the one before. -/
def C (s : List UInt8) (k : Nat) : Nat := if k = 0 then 0 else lcp (X s (k - 1)) (X s k)
theorem C_zero (s : List UInt8) : C s 0 = 0 := rfl
theorem C_succ (s : List UInt8) (k : Nat) : C s (k + 1) = lcp (X s k) (X s (k + 1)) := by unfold C; rw [if_neg (by omega)]; rfl
theorem C_le (s : List UInt8) (k : Nat) : C s k ≤ s.length - sa s k := by
  cases k with
  | zero => rw [C_zero]; omega
  | succ k => rw [C_succ, ← X_len]; exact lcp_right _ _
/-- A word that two ends begin with is begun with by all ends between. -/
theorem between {s y : List UInt8} {i j k : Nat} (h1 : i ≤ j) (h2 : j ≤ k) (hk : k < s.length) (hi : y <+: X s i) (hy : y <+: X s k) : y <+: X s j :=
  sandwich hy (le_tr (pfx_le hi) (X_le h1 (by omega))) (X_le h2 hk)
theorem common_le {s : List UInt8} {i j k : Nat} (h1 : i < j) (h2 : j ≤ k) (hk : k < s.length) : lcp (X s i) (X s k) ≤ C s j := by
  obtain ⟨j, rfl⟩ : ∃ j', j = j' + 1 := ⟨j - 1, by omega⟩
  rw [C_succ]
  have hl := lcp_left (X s i) (X s k)
  have hp : (X s i).take (lcp (X s i) (X s k)) <+: X s i := List.take_prefix _ _
  have ha := between (j := j) (by omega) (by omega) hk hp (lcp_take _ _)
  have hb := between (j := j + 1) (by omega) (by omega) hk hp (lcp_take _ _)
  have := (pfx_lcp ha).1 hb
  rw [List.length_take, Nat.min_eq_left hl] at this
  exact this
theorem common_ge {s : List UInt8} {i m : Nat} : ∀ d, (∀ j, i < j → j ≤ i + (d + 1) → m ≤ C s j) → m ≤ lcp (X s i) (X s (i + (d + 1)))
  | 0, h => by
    have := h (i + 1) (by omega) (by omega)
    rwa [C_succ] at this
  | d + 1, h => by
    have h1 := common_ge d fun j a b => h j a (by omega)
    have h2 := h (i + (d + 1) + 1) (by omega) (by omega)
    rw [C_succ] at h2
    obtain ⟨a1, a2⟩ := (lcp_pre _ _ _).1 h1
    obtain ⟨b1, b2⟩ := (lcp_pre _ _ _).1 h2
    rw [lcp_pre]
    refine ⟨a1, ?_⟩
    have e := List.prefix_iff_eq_take.1 a2
    rw [List.length_take, Nat.min_eq_left a1] at e
    rw [e]
    exact b2

/-- The words that the end at k begins with, and no end before it. -/
def blk (s : List UInt8) (k : Nat) : List (List UInt8) := (List.range (s.length - sa s k - C s k)).map fun t => (X s k).take (C s k + 1 + t)
def PF (s : List UInt8) (i : Nat) : List (List UInt8) := (List.range i).flatMap (blk s)
theorem PF_succ (s : List UInt8) (i : Nat) : PF s (i + 1) = PF s i ++ blk s i := by unfold PF; rw [List.range_succ, List.flatMap_append]; simp
theorem PF_len (s : List UInt8) (i : Nat) : (PF s (i + 1)).length = (PF s i).length + (s.length - sa s i - C s i) := by
  rw [PF_succ, List.length_append]; congr 1; unfold blk; rw [List.length_map, List.length_range]
theorem mem_blk {s y : List UInt8} {k : Nat} : y ∈ blk s k ↔ y <+: X s k ∧ C s k < y.length := by
  unfold blk
  rw [List.mem_map]
  have hc := C_le s k
  have hx := X_len (s := s) k
  constructor
  · rintro ⟨t, ht, rfl⟩
    have := List.mem_range.1 ht
    refine ⟨List.take_prefix _ _, ?_⟩
    rw [List.length_take]; omega
  · rintro ⟨h1, h2⟩
    have := h1.length_le
    refine ⟨y.length - C s k - 1, List.mem_range.2 (by omega), ?_⟩
    rw [show C s k + 1 + (y.length - C s k - 1) = y.length by omega]
    exact (List.prefix_iff_eq_take.1 h1).symm
theorem blk_up (s : List UInt8) (k : Nat) : (blk s k).Pairwise (· < ·) := by
  unfold blk
  rw [List.pairwise_map]
  refine List.Pairwise.imp_of_mem ?_ List.pairwise_lt_range
  intro a b ha hb h
  have h1 := List.mem_range.1 ha
  have h2 := List.mem_range.1 hb
  have hx := X_len (s := s) k
  have hp : (X s k).take (C s k + 1 + a) <+: (X s k).take (C s k + 1 + b) := List.take_prefix_take_left (by omega)
  obtain ⟨t, ht⟩ := hp
  have hl := congrArg List.length ht
  simp only [List.length_append, List.length_take] at hl
  have htn : t ≠ [] := by rintro rfl; simp at hl; omega
  rw [← ht]
  exact pre_lt _ htn
theorem blk_gt {s y : List UInt8} {j k : Nat} (h : j < k) (hk : k < s.length) (hy : y ∈ blk s k) : X s j < y := by
  obtain ⟨k, rfl⟩ : ∃ k', k = k' + 1 := ⟨k - 1, by omega⟩
  obtain ⟨h1, h2⟩ := mem_blk.1 hy
  rw [C_succ] at h2
  have h3 : X s k < y := pfx_gt h1 (X_le (by omega) hk) (fun hn => by have := (pfx_lcp hn).1 h1; omega)
  exact le_lt (X_le (by omega) (by omega)) h3
theorem PF_up {s : List UInt8} : ∀ i, i ≤ s.length → (PF s i).Pairwise (· < ·)
  | 0, _ => by simp [PF]
  | i + 1, h => by
    rw [PF_succ, List.pairwise_append]
    refine ⟨PF_up i (by omega), blk_up s i, fun a ha b hb => ?_⟩
    unfold PF at ha
    obtain ⟨j, hj, ha⟩ := List.mem_flatMap.1 ha
    have hj := List.mem_range.1 hj
    exact le_lt (pfx_le (mem_blk.1 ha).1) (blk_gt hj (by omega) hb)
theorem first_end {s y : List UInt8} : ∀ k, y <+: X s k → y ≠ [] → ∃ j, j ≤ k ∧ y ∈ blk s j
  | 0, h, hy => ⟨0, Nat.le_refl _, mem_blk.2 ⟨h, by rw [C_zero]; exact List.length_pos_iff.2 hy⟩⟩
  | k + 1, h, hy => by
    by_cases hp : y <+: X s k
    · obtain ⟨j, h1, h2⟩ := first_end k hp hy
      exact ⟨j, by omega, h2⟩
    · refine ⟨k + 1, Nat.le_refl _, mem_blk.2 ⟨h, ?_⟩⟩
      rw [C_succ]
      by_cases hl : lcp (X s k) (X s (k + 1)) < y.length
      · exact hl
      · exact absurd ((pfx_lcp' h).2 (by omega)) hp
/-- The unlike words in s, but for the empty one, rising. -/
def dl (s : List UInt8) : List (List UInt8) := PF s s.length
theorem dl_up (s : List UInt8) : (dl s).Pairwise (· < ·) := PF_up _ (Nat.le_refl _)
theorem mem_dl {s y : List UInt8} : y ∈ dl s ↔ y ≠ [] ∧ ∃ p, p < s.length ∧ y <+: s.drop p := by
  unfold dl PF
  rw [List.mem_flatMap]
  constructor
  · rintro ⟨k, hk, h⟩
    have hk := List.mem_range.1 hk
    obtain ⟨h1, h2⟩ := mem_blk.1 h
    exact ⟨by rintro rfl; simp at h2, sa s k, sa_lt hk, h1⟩
  · rintro ⟨h1, p, hp, h2⟩
    obtain ⟨k, hk, rfl⟩ := rank hp
    obtain ⟨j, h3, h4⟩ := first_end k h2 h1
    exact ⟨j, List.mem_range.2 (by omega), h4⟩
theorem dl_nodup (s : List UInt8) : (dl s).Nodup := List.Pairwise.imp (fun {a b} (h : a < b) => (fun e => irr b (e ▸ h) : a ≠ b)) (dl_up s)

/-- y stands at two places. -/
def Rep (s y : List UInt8) : Prop := ∃ p q, p < q ∧ q + y.length ≤ s.length ∧ y <+: s.drop p ∧ y <+: s.drop q
/-- The longest word that stands at two places, and the least of several. -/
def IsTw (s y : List UInt8) : Prop := (y = [] ∨ Rep s y) ∧ ∀ z, Rep s z → z.length < y.length ∨ (z.length = y.length ∧ ¬ z < y)
theorem IsTw.unique {s y z : List UInt8} (h : IsTw s y) (k : IsTw s z) : y = z := by
  have hl : ∀ {y z}, IsTw s y → IsTw s z → y.length ≤ z.length := by
    intro y z h k
    rcases h.1 with rfl | h1
    · simp
    · rcases k.2 y h1 with h2 | h2 <;> omega
  have h1 := hl h k
  have h2 := hl k h
  rcases h.1 with rfl | h3
  · exact (show z = [] by simpa using h2).symm
  · rcases k.1 with rfl | h4
    · simpa using h1
    · rcases k.2 y h3 with h5 | ⟨_, h5⟩
      · omega
      · rcases h.2 z h4 with h6 | ⟨_, h6⟩
        · omega
        · exact tri h5 h6
/-- What suffix.Twice holds when i ends are done. -/
def TwAt (s : List UInt8) (i : Nat) (y : List UInt8) : Prop := (∀ j, j < i → C s j ≤ y.length) ∧ (y = [] ∨ ∃ j, j < i ∧ y = (X s j).take (C s j) ∧ y.length = C s j ∧ ∀ k, k < j → C s k < C s j)
theorem TwAt.zero (s : List UInt8) : TwAt s 0 [] := ⟨fun j h => by omega, .inl rfl⟩
theorem TwAt.no {s y : List UInt8} {i : Nat} (h : TwAt s i y) (hc : C s i ≤ y.length) : TwAt s (i + 1) y := by
  refine ⟨fun j hj => ?_, ?_⟩
  · by_cases e : j = i
    · rw [e]; exact hc
    · exact h.1 j (by omega)
  · rcases h.2 with h | ⟨j, h1, h2⟩
    · exact .inl h
    · exact .inr ⟨j, by omega, h2⟩
theorem TwAt.yes {s y : List UInt8} {i : Nat} (h : TwAt s i y) (hc : y.length < C s i) : TwAt s (i + 1) ((X s i).take (C s i)) := by
  have hl : ((X s i).take (C s i)).length = C s i := by rw [List.length_take, X_len]; have := C_le s i; omega
  refine ⟨fun j hj => ?_, .inr ⟨i, by omega, rfl, hl, fun k hk => ?_⟩⟩
  · rw [hl]
    by_cases e : j = i
    · rw [e]; exact Nat.le_refl _
    · have := h.1 j (by omega); omega
  · have := h.1 k hk; omega
theorem rep_of {s y : List UInt8} {p q : Nat} (hne : p ≠ q) (h1 : y <+: s.drop p) (h2 : y <+: s.drop q) (hy : y ≠ []) : Rep s y := by
  have h0 := List.length_pos_iff.2 hy
  have l1 := h1.length_le
  have l2 := h2.length_le
  rw [List.length_drop] at l1 l2
  rcases Nat.lt_or_ge p q with h | h
  · exact ⟨p, q, h, by omega, h1, h2⟩
  · exact ⟨q, p, by omega, by omega, h2, h1⟩
theorem rep_rank {s y : List UInt8} (h : Rep s y) (hy : y ≠ []) : ∃ b, b < s.length ∧ y.length ≤ C s b ∧ y <+: X s b := by
  obtain ⟨p, q, hpq, hq, h1, h2⟩ := h
  have h0 := List.length_pos_iff.2 hy
  obtain ⟨a, ha, rfl⟩ := rank (s := s) (p := p) (by omega)
  obtain ⟨b, hb, rfl⟩ := rank (s := s) (p := q) (by omega)
  have key : ∀ a b, a < b → b < s.length → y <+: X s a → y <+: X s b → y.length ≤ C s b := by
    intro a b hab hb ha hbp
    obtain ⟨b, rfl⟩ : ∃ b', b = b' + 1 := ⟨b - 1, by omega⟩
    rw [C_succ]
    exact (pfx_lcp (between (j := b) (by omega) (by omega) hb ha hbp)).1 hbp
  rcases Nat.lt_or_ge a b with h | h
  · exact ⟨b, hb, key a b h hb h1 h2, h2⟩
  · have : a ≠ b := by rintro rfl; omega
    exact ⟨a, ha, key b a (by omega) ha h2 h1, h1⟩
theorem TwAt.done {s y : List UInt8} (h : TwAt s s.length y) : IsTw s y := by
  refine ⟨?_, fun z hz => ?_⟩
  · rcases h.2 with h | ⟨j, hj, h1, h2, h3⟩
    · exact .inl h
    · by_cases hy : y = []
      · exact .inl hy
      · right
        obtain ⟨j, rfl⟩ : ∃ j', j = j' + 1 := by
          cases j with
          | zero => rw [C_zero] at h2; exact absurd (List.eq_nil_of_length_eq_zero h2) hy
          | succ j => exact ⟨j, rfl⟩
        rw [C_succ] at h1 h2
        refine rep_of (p := sa s j) (q := sa s (j + 1)) (fun e => ?_) ?_ ?_ hy
        · have := sa_inj (by omega) hj e; omega
        · rw [h1, ← lcp_same]; exact List.take_prefix _ _
        · rw [h1]; exact List.take_prefix _ _
  · by_cases hzn : z = []
    · subst hzn
      rcases h.2 with h | ⟨j, hj, h1, h2, h3⟩
      · subst h; exact .inr ⟨rfl, irr _⟩
      · by_cases hy : y = []
        · subst hy; exact .inr ⟨rfl, irr _⟩
        · left; exact List.length_pos_iff.2 hy
    · obtain ⟨b, hb, h1, h2⟩ := rep_rank hz hzn
      have h3 := h.1 b hb
      by_cases hl : z.length < y.length
      · exact .inl hl
      · right
        refine ⟨by omega, ?_⟩
        have hz0 := List.length_pos_iff.2 hzn
        rcases h.2 with h4 | ⟨j, hj, h5, h6, h7⟩
        · subst h4; simp at hl h3; omega
        · have hjb : j ≤ b := by
            rcases Nat.lt_or_ge b j with h8 | h8
            · have := h7 b h8; omega
            · exact h8
          have e := List.prefix_iff_eq_take.1 h2
          rw [e, h5, show z.length = C s j by omega]
          exact take_mono (X_le hjb hb)

theorem two_iff {α : Type} [BEq α] [LawfulBEq α] {v : α} : ∀ {L : List α}, 2 ≤ L.count v ↔ ∃ p q : Nat, p < q ∧ L[p]? = some v ∧ L[q]? = some v
  | [] => by simp
  | a :: L => by
    rw [List.count_cons]
    by_cases e : a = v
    · subst e
      simp only [beq_self_eq_true, if_true]
      constructor
      · intro h
        have hm : a ∈ L := List.count_pos_iff.1 (by omega)
        obtain ⟨k, hk, e⟩ := List.getElem_of_mem hm
        exact ⟨0, k + 1, by omega, by simp, by simp [List.getElem?_eq_getElem hk, e]⟩
      · rintro ⟨p, q, hpq, _, h⟩
        obtain ⟨q, rfl⟩ : ∃ q', q = q' + 1 := ⟨q - 1, by omega⟩
        rw [List.getElem?_cons_succ] at h
        have := List.count_pos_iff.2 (List.mem_of_getElem? h)
        omega
    · have e2 : (a == v) = false := beq_eq_false_iff_ne.2 e
      rw [e2]
      simp only [Bool.false_eq_true, if_false, Nat.add_zero]
      rw [two_iff (L := L)]
      constructor
      · rintro ⟨p, q, h1, h2, h3⟩
        exact ⟨p + 1, q + 1, by omega, by simpa using h2, by simpa using h3⟩
      · rintro ⟨p, q, h1, h2, h3⟩
        cases p with
        | zero => simp at h2; exact absurd h2 e
        | succ p =>
          obtain ⟨q, rfl⟩ : ∃ q', q = q' + 1 := ⟨q - 1, by omega⟩
          exact ⟨p, q, by omega, by simpa using h2, by simpa using h3⟩
/-- All words of m bytes in s, from the left. -/
def subL (s : List UInt8) (m i : Nat) : List (List UInt8) := (List.range i).map fun p => (s.drop p).take m
theorem subL_succ (s : List UInt8) (m i : Nat) : subL s m (i + 1) = subL s m i ++ [(s.drop i).take m] := by unfold subL; rw [List.range_succ, List.map_append]; rfl
theorem subL_len (s : List UInt8) (m i : Nat) : (subL s m i).length = i := by unfold subL; simp
theorem rep_subL {s y : List UInt8} {m : Nat} (hm : m ≤ s.length) (hy : y.length = m) : Rep s y ↔ 2 ≤ (subL s m (s.length + 1 - m)).count y := by
  rw [two_iff]
  have hget : ∀ p, p < s.length + 1 - m → (subL s m (s.length + 1 - m))[p]? = some ((s.drop p).take m) := by
    intro p hp
    unfold subL
    rw [List.getElem?_map, List.getElem?_range hp]; rfl
  constructor
  · rintro ⟨p, q, h1, h2, h3, h4⟩
    refine ⟨p, q, h1, ?_, ?_⟩
    · rw [hget p (by omega), ← hy, ← List.prefix_iff_eq_take.1 h3]
    · rw [hget q (by omega), ← hy, ← List.prefix_iff_eq_take.1 h4]
  · rintro ⟨p, q, h1, h2, h3⟩
    have hq : q < s.length + 1 - m := by
      have := (List.getElem?_eq_some_iff.1 h3).1
      rwa [subL_len] at this
    rw [hget p (by omega)] at h2
    rw [hget q hq] at h3
    injection h2 with h2
    injection h3 with h3
    exact ⟨p, q, h1, by omega, h2 ▸ List.take_prefix _ _, h3 ▸ List.take_prefix _ _⟩
/-- M: the words of m bytes, in order. -/
def Ordered (s : List UInt8) (m : Nat) (M : List (List UInt8)) : Prop := M.Perm (subL s m (s.length + 1 - m)) ∧ M.Pairwise fun a b => ¬ b < a
theorem Ordered.rep {s y : List UInt8} {m : Nat} {M : List (List UInt8)} (h : Ordered s m M) (hm : m ≤ s.length) (hy : y.length = m) : Rep s y ↔ ∃ p q : Nat, p < q ∧ M[p]? = some y ∧ M[q]? = some y := by
  rw [rep_subL hm hy, ← h.1.count_eq, two_iff]
theorem Ordered.adj {s y : List UInt8} {m : Nat} {M : List (List UInt8)} (h : Ordered s m M) (hm : m ≤ s.length) (hy : y.length = m) (hr : Rep s y) : ∃ p : Nat, M[p]? = some y ∧ M[p + 1]? = some y := by
  obtain ⟨p, q, h1, h2, h3⟩ := (h.rep hm hy).1 hr
  obtain ⟨hq, e3⟩ := List.getElem?_eq_some_iff.1 h3
  obtain ⟨hp, e2⟩ := List.getElem?_eq_some_iff.1 h2
  refine ⟨p, h2, ?_⟩
  have hs := List.pairwise_iff_getElem.1 h.2
  have a1 : ¬ M[p + 1] < M[p] := hs p (p + 1) hp (by omega) (by omega)
  have a2 : ¬ M[q] < M[p + 1] := by
    rcases Nat.lt_or_ge (p + 1) q with hx | hx
    · exact hs (p + 1) q (by omega) hq hx
    · have : p + 1 = q := by omega
      subst this
      exact irr _
  rw [e2] at a1
  rw [e3] at a2
  rw [List.getElem?_eq_getElem (by omega)]
  congr 1
  exact tri a1 a2
theorem Ordered.none_ {s : List UInt8} {m : Nat} {M : List (List UInt8)} (h : Ordered s m M) (hm : m ≤ s.length) (hn : ∀ i, 0 < i → i < M.length → M.getD i [] ≠ M.getD (i - 1) []) : ∀ y, Rep s y → y.length ≠ m := by
  intro y hr hy
  obtain ⟨p, h1, h2⟩ := h.adj hm hy hr
  have hl := (List.getElem?_eq_some_iff.1 h2).1
  refine hn (p + 1) (by omega) hl ?_
  rw [List.getD_eq_getElem?_getD, List.getD_eq_getElem?_getD, h2, Nat.add_sub_cancel, h1]
theorem Ordered.len {s y : List UInt8} {m : Nat} {M : List (List UInt8)} (h : Ordered s m M) (hm : m ≤ s.length) (hy : y ∈ M) : y.length = m := by
  have := h.1.mem_iff.1 hy
  unfold subL at this
  obtain ⟨p, hp, rfl⟩ := List.mem_map.1 this
  have := List.mem_range.1 hp
  rw [List.length_take, List.length_drop]
  omega
theorem Ordered.found {s : List UInt8} {m i : Nat} {M : List (List UInt8)} (h : Ordered s m M) (hm : m ≤ s.length) (hi0 : 0 < i) (hi : i < M.length) (he : M.getD i [] = M.getD (i - 1) []) (hn : ∀ j, 0 < j → j < i → M.getD j [] ≠ M.getD (j - 1) []) (hg : ∀ y, Rep s y → y.length ≤ m) : IsTw s (M.getD i []) := by
  have g0 : ∀ j, j < M.length → M[j]? = some (M.getD j []) := by
    intro j hj
    rw [List.getD_eq_getElem?_getD, List.getElem?_eq_getElem hj]; rfl
  have hmem : M.getD i [] ∈ M := List.mem_of_getElem? (g0 i hi)
  have hl := h.len hm hmem
  refine ⟨.inr ((h.rep hm hl).2 ⟨i - 1, i, by omega, by rw [g0 (i - 1) (by omega), he], g0 i hi⟩), fun z hz => ?_⟩
  have := hg z hz
  rw [hl]
  by_cases hzl : z.length < m
  · exact .inl hzl
  · refine .inr ⟨by omega, ?_⟩
    obtain ⟨p, h1, h2⟩ := h.adj hm (by omega) hz
    have hp := (List.getElem?_eq_some_iff.1 h2).1
    have hip : i ≤ p + 1 := by
      rcases Nat.lt_or_ge (p + 1) i with hx | hx
      · exfalso
        refine hn (p + 1) (by omega) hx ?_
        rw [List.getD_eq_getElem?_getD, List.getD_eq_getElem?_getD, h2, Nat.add_sub_cancel, h1]
      · exact hx
    obtain ⟨hp2, e2⟩ := List.getElem?_eq_some_iff.1 h2
    have ei : M.getD i [] = M[i] := by rw [List.getD_eq_getElem?_getD, List.getElem?_eq_getElem hi]; rfl
    rw [ei, ← e2]
    rcases Nat.lt_or_ge i (p + 1) with hx | hx
    · exact List.pairwise_iff_getElem.1 h.2 i (p + 1) hi hp2 hx
    · have : i = p + 1 := by omega
      subst this
      exact irr _
theorem rep_short {s y : List UInt8} (h : Rep s y) : y.length ≤ s.length - 1 := by obtain ⟨p, q, h1, h2, _⟩ := h; omega
theorem no_rep {s : List UInt8} (h : ∀ y, Rep s y → y.length ≤ 0) : IsTw s [] := by
  refine ⟨.inl rfl, fun z hz => ?_⟩
  have : z = [] := List.eq_nil_of_length_eq_zero (by have := h z hz; omega)
  subst this
  exact .inr ⟨rfl, irr _⟩
end Sm
end Go.Proofs.Ytgkagigagcamoaa


/-
Plain mathematics: how many unlike words there are in a word, in a longer one, in the reversed one, in a run. No program is named here.
-/
namespace Go.Proofs.Ytgkagigagcamoaa
namespace Sm
open Lm

theorem mem_dl' {s y : List UInt8} : y ∈ dl s ↔ y ≠ [] ∧ y <:+: s := by
  rw [mem_dl]
  constructor
  · rintro ⟨h1, p, hp, t, ht⟩
    exact ⟨h1, s.take p, t, by rw [List.append_assoc, ht, List.take_append_drop]⟩
  · rintro ⟨h1, u, v, h⟩
    have h0 := List.length_pos_iff.2 h1
    have hl := congrArg List.length h
    simp only [List.length_append] at hl
    refine ⟨h1, u.length, by omega, v, ?_⟩
    rw [← h, List.append_assoc, List.drop_left]
theorem nodup_le {α : Type} [BEq α] [LawfulBEq α] : ∀ {A B : List α}, A.Nodup → (∀ x, x ∈ A → x ∈ B) → A.length ≤ B.length
  | [], B, _, _ => by simp
  | a :: A, B, h, hs => by
    have ha : a ∈ B := hs a List.mem_cons_self
    rw [List.nodup_cons] at h
    have := nodup_le (B := B.erase a) h.2 fun x hx => by
      have hne : x ≠ a := by rintro rfl; exact h.1 hx
      exact (List.mem_erase_of_ne hne).2 (hs x (List.mem_cons_of_mem _ hx))
    rw [List.length_erase_of_mem ha] at this
    have := List.length_pos_of_mem ha
    simp only [List.length_cons]
    omega
theorem nodup_map {α β : Type} {f : α → β} {L : List α} (h : L.Nodup) (hf : ∀ a b, a ∈ L → b ∈ L → f a = f b → a = b) : (L.map f).Nodup := by
  unfold List.Nodup
  rw [List.pairwise_map]
  exact List.Pairwise.imp_of_mem (fun {a b} ha hb hne e => hne (hf a b ha hb e)) h
theorem dl_ge (s : List UInt8) : s.length ≤ (dl s).length := by
  have := nodup_le (A := (List.range s.length).map fun i => s.take (i + 1)) (B := dl s) (nodup_map List.nodup_range fun a b ha hb e => by
    have h1 := List.mem_range.1 ha
    have h2 := List.mem_range.1 hb
    have := congrArg List.length e
    simp only [List.length_take] at this
    omega) fun x hx => by
    obtain ⟨i, hi, rfl⟩ := List.mem_map.1 hx
    have h1 := List.mem_range.1 hi
    refine mem_dl'.2 ⟨fun e => ?_, [], s.drop (i + 1), by simp⟩
    have := congrArg List.length e
    simp only [List.length_take, List.length_nil] at this
    omega
  simpa using this
theorem dl_mono (s : List UInt8) (b : UInt8) : (dl s).length ≤ (dl (s ++ [b])).length :=
  nodup_le (dl_nodup s) fun x hx => by
    obtain ⟨h1, u, v, h⟩ := mem_dl'.1 hx
    exact mem_dl'.2 ⟨h1, u, v ++ [b], by rw [← List.append_assoc, h]⟩
theorem dl_app (s : List UInt8) (b : UInt8) : (dl (s ++ [b])).length ≤ (dl s).length + s.length + 1 := by
  have := nodup_le (A := dl (s ++ [b])) (B := dl s ++ (List.range (s.length + 1)).map fun i => (s ++ [b]).drop i) (dl_nodup _) fun x hx => by
    obtain ⟨h1, h⟩ := mem_dl'.1 hx
    rw [List.mem_append]
    rcases List.infix_concat_iff.1 h with h | h
    · right
      have hl := h.length_le
      have h0 := List.length_pos_iff.2 h1
      rw [List.length_append, List.length_singleton] at hl
      refine List.mem_map.2 ⟨s.length + 1 - x.length, List.mem_range.2 (by omega), ?_⟩
      have := List.suffix_iff_eq_drop.1 h
      rw [List.length_append, List.length_singleton] at this
      exact this.symm
    · exact .inl (mem_dl'.2 ⟨h1, h⟩)
  rw [List.length_append, List.length_map, List.length_range] at this
  omega
theorem dl_rev (s : List UInt8) : (dl s.reverse).length = (dl s).length := by
  have key : ∀ s : List UInt8, (dl s).length ≤ (dl s.reverse).length := by
    intro s
    have := nodup_le (A := (dl s).map List.reverse) (B := dl s.reverse) (nodup_map (dl_nodup s) fun a b _ _ e => List.reverse_inj.1 e) fun x hx => by
      obtain ⟨y, hy, rfl⟩ := List.mem_map.1 hx
      obtain ⟨h1, h⟩ := mem_dl'.1 hy
      exact mem_dl'.2 ⟨by simpa using h1, List.reverse_infix.2 h⟩
    simpa using this
  have h1 := key s
  have h2 := key s.reverse
  rw [List.reverse_reverse] at h2
  omega
theorem dl_run (n : Nat) (a : UInt8) : (dl (List.replicate n a)).length = n := by
  have h1 := dl_ge (List.replicate n a)
  rw [List.length_replicate] at h1
  have h2 := nodup_le (A := dl (List.replicate n a)) (B := (List.range n).map fun i => List.replicate (i + 1) a) (dl_nodup _) fun x hx => by
    obtain ⟨hne, u, v, h⟩ := mem_dl'.1 hx
    have h0 := List.length_pos_iff.2 hne
    have hl := congrArg List.length h
    simp only [List.length_append, List.length_replicate] at hl
    refine List.mem_map.2 ⟨x.length - 1, List.mem_range.2 (by omega), ?_⟩
    rw [show x.length - 1 + 1 = x.length by omega]
    refine (List.eq_replicate_iff.2 ⟨rfl, fun c hc => ?_⟩).symm
    have : c ∈ List.replicate n a := by rw [← h]; simp [hc]
    exact List.eq_of_mem_replicate this
  rw [List.length_map, List.length_range] at h2
  omega
theorem aab_sa : saL [97, 97, 98] = [0, 1, 2] := SA.unique (saL_sa _) ⟨by decide +kernel, by decide +kernel⟩
theorem dl_aab : (dl [97, 97, 98]).length = 5 := by
  unfold dl PF blk C X sa
  rw [aab_sa]
  decide +kernel
end Sm
end Go.Proofs.Ytgkagigagcamoaa


/-
Plain mathematics of the Burrows-Wheeler transform: the turns of a word in their order, their last bytes, the way back, searching from behind. No program is named here.
-/
namespace Go.Proofs.Ytgkagigagcamoaa
namespace Tm
open Lm Sm

/-- For how many numbers below n does P hold? -/
def cnt (P : Nat → Bool) : Nat → Nat
  | 0 => 0
  | n + 1 => cnt P n + (P n).toNat
theorem cnt_mono {P Q : Nat → Bool} : ∀ {n}, (∀ j, j < n → P j = true → Q j = true) → cnt P n ≤ cnt Q n
  | 0, _ => Nat.le_refl _
  | n + 1, h => by
    have h1 := cnt_mono (n := n) fun j hj => h j (by omega)
    have h2 := h n (by omega)
    unfold cnt
    cases hp : P n
    · simp; omega
    · rw [h2 hp]; simp; omega
theorem cnt_congr {P Q : Nat → Bool} {n : Nat} (h : ∀ j, j < n → P j = Q j) : cnt P n = cnt Q n :=
  Nat.le_antisymm (cnt_mono fun j hj e => by rw [← h j hj]; exact e) (cnt_mono fun j hj e => by rw [h j hj]; exact e)
theorem cnt_or {P Q S : Nat → Bool} : ∀ {n}, (∀ j, j < n → ¬ (P j = true ∧ Q j = true)) → (∀ j, j < n → S j = (P j || Q j)) → cnt S n = cnt P n + cnt Q n
  | 0, _, _ => rfl
  | n + 1, h, hs => by
    have h1 := cnt_or (n := n) (fun j hj => h j (by omega)) (fun j hj => hs j (by omega))
    have h2 := h n (by omega)
    unfold cnt
    rw [hs n (by omega)]
    cases hp : P n <;> cases hq : Q n <;> simp_all <;> omega
theorem cnt_below (k : Nat) : ∀ n, cnt (fun j => decide (j < k)) n = min k n
  | 0 => by simp [cnt]
  | n + 1 => by
    unfold cnt
    rw [cnt_below k n]
    by_cases h : n < k
    · simp [h]; omega
    · simp [h]; omega
theorem cnt_le (P : Nat → Bool) (n : Nat) : cnt P n ≤ n := by
  have := cnt_mono (n := n) (P := P) (Q := fun j => decide (j < n)) fun j hj _ => by simp [hj]
  rw [cnt_below] at this
  omega
/-- Counting along a part only. -/
theorem cnt_part (P : Nat → Bool) {m n : Nat} (h : m ≤ n) : cnt (fun j => P j && decide (j < m)) n = cnt P m := by
  induction n with
  | zero => obtain rfl : m = 0 := by omega
            rfl
  | succ n ih =>
    by_cases hm : m = n + 1
    · subst hm
      exact cnt_congr fun j hj => by simp [hj]
    · show cnt (fun j => P j && decide (j < m)) n + (P n && decide (n < m)).toNat = cnt P m
      rw [ih (by omega), show decide (n < m) = false from decide_eq_false (by omega), Bool.and_false]
      rfl
theorem cnt_countP (P : Nat → Bool) : ∀ n, cnt P n = (List.range n).countP P
  | 0 => rfl
  | n + 1 => by
    unfold cnt
    rw [List.range_succ, List.countP_append, cnt_countP P n]
    cases hp : P n <;> simp [hp]
/-- σ exchanges the numbers below n. -/
structure Bij (n : Nat) (σ : Nat → Nat) : Prop where
  lt : ∀ k, k < n → σ k < n
  inj : ∀ i j, i < n → j < n → σ i = σ j → i = j
theorem Bij.onto {n : Nat} {σ : Nat → Nat} (h : Bij n σ) {i : Nat} (hi : i < n) : ∃ k, k < n ∧ σ k = i := by
  by_cases hc : i ∈ (List.range n).map σ
  · obtain ⟨k, hk, e⟩ := List.mem_map.1 hc
    exact ⟨k, List.mem_range.1 hk, e⟩
  · have hn : ((List.range n).map σ).Nodup := nodup_map List.nodup_range fun a b ha hb e => h.inj a b (List.mem_range.1 ha) (List.mem_range.1 hb) e
    have := nodup_le (A := i :: (List.range n).map σ) (B := List.range n) (List.nodup_cons.2 ⟨hc, hn⟩) (fun x hx => by
      rcases List.mem_cons.1 hx with rfl | hx
      · exact List.mem_range.2 hi
      · obtain ⟨k, hk, rfl⟩ := List.mem_map.1 hx
        exact List.mem_range.2 (h.lt k (List.mem_range.1 hk)))
    simp at this
    omega
theorem Bij.perm {n : Nat} {σ : Nat → Nat} (h : Bij n σ) : ((List.range n).map σ).Perm (List.range n) := by
  rw [List.perm_iff_count]
  intro a
  have hn : ((List.range n).map σ).Nodup := nodup_map List.nodup_range fun a b ha hb e => h.inj a b (List.mem_range.1 ha) (List.mem_range.1 hb) e
  by_cases ha : a < n
  · obtain ⟨k, hk, e⟩ := h.onto ha
    have h1 := List.nodup_iff_count.1 hn a
    have h2 := List.nodup_iff_count.1 (List.nodup_range (n := n)) a
    have h3 := List.count_pos_iff.2 (List.mem_map.2 ⟨k, List.mem_range.2 hk, e⟩ : a ∈ (List.range n).map σ)
    have h4 := List.count_pos_iff.2 (List.mem_range.2 ha)
    omega
  · rw [List.count_eq_zero.2, List.count_eq_zero.2]
    · simp [ha]
    · intro hc
      obtain ⟨k, hk, rfl⟩ := List.mem_map.1 hc
      exact ha (h.lt k (List.mem_range.1 hk))
theorem Bij.cnt {n : Nat} {σ : Nat → Nat} (h : Bij n σ) (P : Nat → Bool) : cnt (fun j => P (σ j)) n = cnt P n := by
  have h1 := h.perm.countP_eq P
  rw [List.countP_map] at h1
  rw [cnt_countP, cnt_countP]
  exact h1

/-- In a row that does not fall what stands at k is told by counting. -/
theorem rank_is {n k : Nat} {T : Nat → List UInt8} {y : List UInt8} (hs : ∀ i j, i < j → j < n → ¬ T j < T i) (hk : k < n) (h1 : cnt (fun j => decide (T j < y)) n ≤ k) (h2 : k < cnt (fun j => decide (¬ y < T j)) n) : T k = y := by
  refine tri (fun hc => ?_) (fun hc => ?_)
  · have : cnt (fun j => decide (j < k + 1)) n ≤ cnt (fun j => decide (T j < y)) n := cnt_mono fun j hj e => by
      have e := of_decide_eq_true e
      refine decide_eq_true ?_
      by_cases hjk : j = k
      · rw [hjk]; exact hc
      · exact le_lt (hs j k (by omega) hk) hc
    rw [cnt_below] at this
    omega
  · have : cnt (fun j => decide (¬ y < T j)) n ≤ cnt (fun j => decide (j < k)) n := cnt_mono fun j hj e => by
      have e := of_decide_eq_true e
      refine decide_eq_true ?_
      by_cases hjk : j < k
      · exact hjk
      · exfalso
        by_cases hj2 : j = k
        · rw [hj2] at e; exact e hc
        · exact e (lt_le hc (hs k j (by omega) hj))
    rw [cnt_below] at this
    omega
theorem rank_self {n k : Nat} {T : Nat → List UInt8} (hs : ∀ i j, i < j → j < n → ¬ T j < T i) (hk : k < n) : cnt (fun j => decide (T j < T k)) n ≤ k ∧ k < cnt (fun j => decide (¬ T k < T j)) n := by
  constructor
  · have : cnt (fun j => decide (T j < T k)) n ≤ cnt (fun j => decide (j < k)) n := cnt_mono fun j hj e => by
      have e := of_decide_eq_true e
      refine decide_eq_true ?_
      by_cases hjk : j < k
      · exact hjk
      · exfalso
        by_cases hj2 : j = k
        · rw [hj2] at e; exact irr _ e
        · exact hs k j (by omega) hj e
    rw [cnt_below] at this
    omega
  · have : cnt (fun j => decide (j < k + 1)) n ≤ cnt (fun j => decide (¬ T k < T j)) n := cnt_mono fun j hj e => by
      have e := of_decide_eq_true e
      refine decide_eq_true ?_
      by_cases hjk : j = k
      · rw [hjk]; exact irr _
      · exact hs j k (by omega) hk
    rw [cnt_below] at this
    omega
/-- Two rows that do not fall, of the same words: the same. -/
theorem same_rows {n : Nat} {T U : Nat → List UInt8} (hs : ∀ i j, i < j → j < n → ¬ T j < T i) (hu : ∀ i j, i < j → j < n → ¬ U j < U i)
    (hc : ∀ P : List UInt8 → Bool, cnt (fun j => P (T j)) n = cnt (fun j => P (U j)) n) {k : Nat} (hk : k < n) : T k = U k := by
  obtain ⟨h1, h2⟩ := rank_self hu hk
  refine rank_is hs hk ?_ ?_
  · rw [hc fun z => decide (z < U k)]; exact h1
  · rw [hc fun z => decide (¬ U k < z)]; exact h2

/-- Byte d of the ring of x, from place i on. -/
def W (x : List UInt8) (i d : Nat) : UInt8 := x.getD ((i + d) % x.length) 0
/-- The m bytes of the ring from place i on. -/
def cy (x : List UInt8) (i m : Nat) : List UInt8 := (List.range m).map fun d => W x i d
theorem cy_len (x : List UInt8) (i m : Nat) : (cy x i m).length = m := by unfold cy; simp
theorem cy_get (x : List UInt8) (i : Nat) {m d : Nat} (h : d < m) : (cy x i m).getD d 0 = W x i d := by
  unfold cy; rw [List.getD_eq_getElem?_getD, List.getElem?_map, List.getElem?_range h]; rfl
theorem W_mod (x : List UInt8) (i d : Nat) : W x (i % x.length) d = W x i d := by unfold W; rw [Nat.mod_add_mod]
theorem W_per (x : List UInt8) (i d : Nat) : W x i (d % x.length) = W x i d := by unfold W; rw [Nat.add_mod_mod]
theorem W_shift (x : List UInt8) (i e d : Nat) : W x (i + e) d = W x i (e + d) := by unfold W; rw [Nat.add_assoc]
theorem cy_succ (x : List UInt8) (i m : Nat) : cy x i (m + 1) = W x i 0 :: cy x (i + 1) m := by
  unfold cy
  rw [List.range_succ_eq_map, List.map_cons, List.map_map]
  refine congrArg _ (List.map_congr_left fun d _ => ?_)
  show W x i (d + 1) = W x (i + 1) d
  rw [W_shift, Nat.add_comm 1 d]
theorem cy_end (x : List UInt8) (i m : Nat) : cy x i (m + 1) = cy x i m ++ [W x i m] := by unfold cy; rw [List.range_succ, List.map_append]; rfl
/-- The place before. -/
def pv (n i : Nat) : Nat := (i + (n - 1)) % n
theorem pv_bij (n : Nat) : Bij n (pv n) := by
  refine ⟨fun k hk => Nat.mod_lt _ (by omega), fun i j hi hj h => ?_⟩
  have e : ∀ i, i < n → pv n i = if i = 0 then n - 1 else i - 1 := fun i hi => by
    unfold pv
    by_cases h0 : i = 0
    · rw [if_pos h0, h0, Nat.zero_add, Nat.mod_eq_of_lt (by omega)]
    · rw [if_neg h0, show i + (n - 1) = (i - 1) + n by omega, Nat.add_mod_right, Nat.mod_eq_of_lt (by omega)]
  rw [e i hi, e j hj] at h
  by_cases h1 : i = 0
  · by_cases h2 : j = 0
    · omega
    · rw [if_pos h1, if_neg h2] at h; omega
  · by_cases h2 : j = 0
    · rw [if_neg h1, if_pos h2] at h; omega
    · rw [if_neg h1, if_neg h2] at h; omega
theorem cy_prev {x : List UInt8} (hx : 0 < x.length) (i m : Nat) : cy x (pv x.length i) (m + 1) = W x i (x.length - 1) :: cy x i m := by
  rw [cy_succ]
  have h1 : W x (pv x.length i) 0 = W x i (x.length - 1) := by unfold pv; rw [W_mod, W_shift, Nat.add_zero]
  have h2 : cy x (pv x.length i + 1) m = cy x i m := by
    unfold cy
    refine List.map_congr_left fun d _ => ?_
    rw [W_shift]
    unfold pv
    rw [W_mod, W_shift, ← W_per, show x.length - 1 + (1 + d) = d + x.length by omega, Nat.add_mod_right, W_per]
  rw [h1, h2]
theorem cy_prev_last {x : List UInt8} (hx : 0 < x.length) (i : Nat) : cy x (pv x.length i) x.length = W x i (x.length - 1) :: cy x i (x.length - 1) := by
  have := cy_prev hx i (x.length - 1)
  rw [show x.length - 1 + 1 = x.length by omega] at this
  exact this
theorem lt_cy (x : List UInt8) (i j m : Nat) : cy x i m < cy x j m ↔ ∃ d, d < m ∧ (∀ e, e < d → W x i e = W x j e) ∧ W x i d < W x j d := by
  rw [lt_iff, cy_len, cy_len]
  have hb : ∀ i d, d < m → bn (cy x i m) d = (W x i d).toNat := fun i d h => by unfold bn; rw [cy_get x i h]
  constructor
  · rintro ⟨d, h1, h2, h3, h4⟩
    refine ⟨d, h2, fun e he => ?_, ?_⟩
    · have := h3 e he
      rw [hb i e (by omega), hb j e (by omega)] at this
      exact UInt8.toNat_inj.1 this
    · rcases h4 with h4 | ⟨_, h4⟩
      · omega
      · rw [hb i d h2, hb j d h2] at h4
        exact UInt8.lt_iff_toNat_lt.2 h4
  · rintro ⟨d, h1, h2, h3⟩
    refine ⟨d, by omega, h1, fun e he => ?_, .inr ⟨h1, ?_⟩⟩
    · rw [hb i e (by omega), hb j e (by omega), h2 e he]
    · rw [hb i d h1, hb j d h1]
      exact UInt8.lt_iff_toNat_lt.1 h3
/-- Turns are told apart by their own bytes. -/
theorem lt_cy_n {x : List UInt8} (hx : 0 < x.length) {i j m : Nat} (h : cy x i m < cy x j m) : cy x i x.length < cy x j x.length := by
  rw [lt_cy] at *
  obtain ⟨d, h1, h2, h3⟩ := h
  by_cases hd : d < x.length
  · exact ⟨d, hd, h2, h3⟩
  · exfalso
    have hm := Nat.mod_lt d hx
    have := h2 (d % x.length) (by omega)
    rw [W_per, W_per] at this
    rw [this] at h3
    rw [UInt8.lt_iff_toNat_lt] at h3
    omega
/-- The order of the turns: by their bytes, equal ones by place. -/
def R (x : List UInt8) (i j : Nat) : Prop := cy x i x.length < cy x j x.length ∨ (cy x i x.length = cy x j x.length ∧ i < j)
theorem R.tr {x : List UInt8} {i j k : Nat} (h : R x i j) (g : R x j k) : R x i k := by
  rcases h with h | ⟨h, h'⟩
  · rcases g with g | ⟨g, g'⟩
    · exact .inl (lt_tr h g)
    · exact .inl (g ▸ h)
  · rcases g with g | ⟨g, g'⟩
    · exact .inl (h ▸ g)
    · exact .inr ⟨h.trans g, by omega⟩
theorem R.as_ {x : List UInt8} {i j : Nat} (h : R x i j) : ¬ R x j i := fun g => by
  rcases h.tr g with h | ⟨_, h⟩
  · exact irr _ h
  · omega
theorem R.le {x : List UInt8} {i j : Nat} (h : R x i j) : ¬ cy x j x.length < cy x i x.length := by
  rcases h with h | ⟨h, _⟩
  · exact Sm.as_ h
  · rw [h]; exact irr _
/-- σ tells the turns in their order. -/
structure Bw (x : List UInt8) (σ : Nat → Nat) : Prop where
  bij : Bij x.length σ
  up : ∀ i j, i < j → j < x.length → R x (σ i) (σ j)
theorem Bw.unique {x : List UInt8} {σ τ : Nat → Nat} (h : Bw x σ) (g : Bw x τ) : ∀ k, k < x.length → σ k = τ k := by
  have hp : ∀ {σ}, Bw x σ → ((List.range x.length).map σ).Pairwise (R x) := fun h => by
    rw [List.pairwise_map, List.pairwise_iff_getElem]
    intro i j hi hj hij
    simp at hi hj ⊢
    exact h.up i j hij hj
  have := sorted_same (R := R x) (fun a b h => h.as_) (fun a h => h.as_ h) (hp h) (hp g) (fun z => by rw [h.bij.perm.mem_iff, g.bij.perm.mem_iff])
  intro k hk
  have h1 := congrArg (fun l => l.getD k 0) this
  simpa [List.getD_eq_getElem?_getD, hk] using h1
theorem Bw.rise {x : List UInt8} {σ : Nat → Nat} (h : Bw x σ) (m : Nat) : ∀ i j, i < j → j < x.length → ¬ cy x (σ j) m < cy x (σ i) m :=
  fun i j hij hj hc => (h.up i j hij hj).le (lt_cy_n (by omega) hc)
/-- t and a are what the transform of x tells. -/
structure IsPut (x t : List UInt8) (a : Nat) : Prop where
  len : t.length = x.length
  all : ∃ σ, Bw x σ ∧ (∀ k, k < x.length → t.getD k 0 = W x (σ k) (x.length - 1)) ∧ (0 < x.length → a < x.length ∧ σ a = 0)
  zero : x.length = 0 → a = 0
theorem IsPut.unique {x t u : List UInt8} {a b : Nat} (h : IsPut x t a) (g : IsPut x u b) : t = u ∧ a = b := by
  obtain ⟨σ, h1, h2, h3⟩ := h.all
  obtain ⟨τ, g1, g2, g3⟩ := g.all
  have hu := h1.unique g1
  refine ⟨List.ext_getElem (by rw [h.len, g.len]) fun i i1 i2 => ?_, ?_⟩
  · have hi : i < x.length := by rw [← h.len]; exact i1
    have e1 := h2 i hi
    have e2 := g2 i hi
    rw [List.getD_eq_getElem?_getD, List.getElem?_eq_getElem i1, Option.getD_some] at e1
    rw [List.getD_eq_getElem?_getD, List.getElem?_eq_getElem i2, Option.getD_some] at e2
    rw [e1, e2, hu i hi]
  · by_cases h0 : x.length = 0
    · rw [h.zero h0, g.zero h0]
    · obtain ⟨ha, ha'⟩ := h3 (by omega)
      obtain ⟨hb, hb'⟩ := g3 (by omega)
      refine h1.bij.inj a b ha hb ?_
      rw [ha', hu b hb, hb']
theorem cy_zero_is {x : List UInt8} : cy x 0 x.length = x := by
  refine List.ext_getElem (by rw [cy_len]) fun i i1 i2 => ?_
  have := cy_get x 0 (m := x.length) i2
  rw [List.getD_eq_getElem?_getD, List.getElem?_eq_getElem i1, Option.getD_some] at this
  rw [this]
  unfold W
  rw [Nat.zero_add, Nat.mod_eq_of_lt i2, List.getD_eq_getElem?_getD, List.getElem?_eq_getElem i2, Option.getD_some]

/-- How many bytes of t are less than b, and how many of the first m are b. -/
def sp (t : List UInt8) (b m : Nat) : Nat := cnt (fun i => decide (bn t i < b)) t.length + cnt (fun i => decide (bn t i = b)) m
theorem sp_as (t : List UInt8) (b m : Nat) (h : m ≤ t.length) : sp t b m = cnt (fun i => decide (bn t i < b ∨ (bn t i = b ∧ i < m))) t.length := by
  unfold sp
  rw [← cnt_part _ h]
  refine (cnt_or (fun j _ hc => ?_) (fun j _ => ?_)).symm
  · simp at hc
    omega
  · simp [Bool.decide_or, Bool.decide_and]
theorem sp_mono (t : List UInt8) (b : Nat) {m k : Nat} (h : m ≤ k) (hk : k ≤ t.length) : sp t b m ≤ sp t b k := by
  rw [sp_as t b m (by omega), sp_as t b k hk]
  exact cnt_mono fun j _ e => by
    have e := of_decide_eq_true e
    exact decide_eq_true (by omega)
theorem sp_le (t : List UInt8) (b m : Nat) (h : m ≤ t.length) : sp t b m ≤ t.length := by rw [sp_as t b m h]; exact cnt_le _ _
theorem sp_lt (t : List UInt8) {k : Nat} (h : k < t.length) : sp t (bn t k) k < t.length := by
  rw [sp_as t _ k (by omega)]
  have h1 : cnt (fun i => decide (bn t i < bn t k ∨ (bn t i = bn t k ∧ i < k))) t.length + cnt (fun i => decide (i = k)) t.length ≤ t.length := by
    rw [← cnt_or (S := fun i => decide (bn t i < bn t k ∨ (bn t i = bn t k ∧ i < k)) || decide (i = k)) (fun j _ hc => ?_) (fun j _ => rfl)]
    · exact cnt_le _ _
    · simp at hc
      obtain ⟨h1, rfl⟩ := hc
      omega
  have h2 : cnt (fun i => decide (i < k)) (k + 1) + 1 = k + 1 := by rw [cnt_below]; omega
  have h3 : ∀ n, k < n → 1 ≤ cnt (fun i => decide (i = k)) n := by
    intro n hn
    induction n with
    | zero => omega
    | succ n ih =>
      unfold cnt
      by_cases hk : k = n
      · simp [hk]
      · have := ih (by omega)
        omega
  have := h3 _ h
  omega

/-- A step of the way back leads to the turn from the place before. -/
theorem back_step {x t : List UInt8} {σ : Nat → Nat} (h : Bw x σ) (hl : t.length = x.length) (ht : ∀ k, k < x.length → t.getD k 0 = W x (σ k) (x.length - 1)) {k : Nat} (hk : k < x.length) :
    cy x (σ (sp t (bn t k) k)) x.length = cy x (pv x.length (σ k)) x.length := by
  have hx : 0 < x.length := by omega
  have hb : ∀ j, j < x.length → bn t j = (W x (σ j) (x.length - 1)).toNat := fun j hj => by unfold bn; rw [ht j hj]
  have hsp : sp t (bn t k) k < x.length := by rw [← hl]; exact sp_lt t (by omega)
  have hcnt : ∀ P : List UInt8 → Bool, cnt (fun j => P (cy x (σ j) x.length)) x.length = cnt (fun j => P (cy x (pv x.length (σ j)) x.length)) x.length := fun P => by
    rw [h.bij.cnt (fun i => P (cy x i x.length)), h.bij.cnt (fun i => P (cy x (pv x.length i) x.length)), (pv_bij x.length).cnt (fun i => P (cy x i x.length))]
  have hcons : ∀ j, cy x (pv x.length (σ j)) x.length = W x (σ j) (x.length - 1) :: cy x (σ j) (x.length - 1) := fun j => cy_prev_last hx _
  refine rank_is (T := fun j => cy x (σ j) x.length) (h.rise x.length) hsp ?_ ?_
  · show cnt (fun j => decide (cy x (σ j) x.length < cy x (pv x.length (σ k)) x.length)) x.length ≤ _
    rw [hcnt fun z => decide (z < cy x (pv x.length (σ k)) x.length), sp_as t _ k (by omega), hl]
    refine cnt_mono fun j hj e => ?_
    have e := of_decide_eq_true e
    refine decide_eq_true ?_
    rw [hcons, hcons, cons_lt] at e
    rw [hb j hj, hb k hk]
    rcases e with e | ⟨e1, e2⟩
    · exact .inl (UInt8.lt_iff_toNat_lt.1 e)
    · refine .inr ⟨by rw [e1], ?_⟩
      by_cases hjk : j < k
      · exact hjk
      · exfalso
        by_cases hj2 : j = k
        · rw [hj2] at e2; exact irr _ e2
        · exact h.rise _ k j (by omega) hj e2
  · show _ < cnt (fun j => decide (¬ cy x (pv x.length (σ k)) x.length < cy x (σ j) x.length)) x.length
    rw [hcnt fun z => decide (¬ cy x (pv x.length (σ k)) x.length < z)]
    have h1 : sp t (bn t k) (k + 1) ≤ cnt (fun j => decide (¬ cy x (pv x.length (σ k)) x.length < cy x (pv x.length (σ j)) x.length)) x.length := by
      rw [sp_as t _ (k + 1) (by omega), hl]
      refine cnt_mono fun j hj e => ?_
      have e := of_decide_eq_true e
      refine decide_eq_true ?_
      rw [hcons, hcons, cons_lt]
      rw [hb j hj, hb k hk] at e
      rintro (h2 | ⟨h2, h3⟩)
      · rw [UInt8.lt_iff_toNat_lt] at h2
        omega
      · rw [h2] at e
        by_cases hj2 : j = k
        · rw [hj2] at h3; exact irr _ h3
        · exact h.rise _ j k (by omega) hk h3
    have h2 : sp t (bn t k) (k + 1) = sp t (bn t k) k + 1 := by
      unfold sp
      rw [show cnt (fun i => decide (bn t i = bn t k)) (k + 1) = cnt (fun i => decide (bn t i = bn t k)) k + (decide (bn t k = bn t k)).toNat from rfl]
      simp
      omega
    omega
/-- Where the way back stands behind d steps. -/
def lf (t : List UInt8) (a : Nat) : Nat → Nat
  | 0 => a
  | d + 1 => sp t (bn t (lf t a d)) (lf t a d)
theorem lf_lt (t : List UInt8) {a : Nat} (h : a < t.length) : ∀ d, lf t a d < t.length
  | 0 => h
  | d + 1 => sp_lt t (lf_lt t h d)
/-- The word that the way back tells. -/
def gt (t : List UInt8) (a : Nat) : List UInt8 := (List.range t.length).map fun k => t.getD (lf t a (t.length - 1 - k)) 0
theorem gt_len (t : List UInt8) (a : Nat) : (gt t a).length = t.length := by unfold gt; simp
theorem lf_turn {x t : List UInt8} {σ : Nat → Nat} (h : Bw x σ) (hl : t.length = x.length) (ht : ∀ k, k < x.length → t.getD k 0 = W x (σ k) (x.length - 1)) {a : Nat} (ha : a < x.length) (h0 : σ a = 0) :
    ∀ d, d < x.length → cy x (σ (lf t a d)) x.length = cy x (x.length - d) x.length
  | 0, _ => by
    show cy x (σ a) x.length = _
    rw [h0]
    unfold cy
    refine List.map_congr_left fun d _ => ?_
    unfold W
    rw [Nat.sub_zero, Nat.zero_add, Nat.add_mod_left]
  | d + 1, hd => by
    have ih := lf_turn h hl ht ha h0 d (by omega)
    have hx : 0 < x.length := by omega
    have hlt : lf t a d < x.length := by rw [← hl]; exact lf_lt t (by omega) d
    show cy x (σ (sp t (bn t (lf t a d)) (lf t a d))) x.length = _
    rw [back_step h hl ht hlt, cy_prev_last hx]
    have hw : ∀ e, e < x.length → W x (σ (lf t a d)) e = W x (x.length - d) e := fun e he => by
      have := congrArg (fun l => l.getD e 0) ih
      simp only [cy_get x _ he] at this
      exact this
    rw [hw _ (by omega), show cy x (σ (lf t a d)) (x.length - 1) = cy x (x.length - d) (x.length - 1) from List.map_congr_left fun e he => hw e (by have := List.mem_range.1 he; omega), ← cy_prev_last hx]
    unfold cy
    refine List.map_congr_left fun e _ => ?_
    unfold pv
    rw [W_mod]
    rw [W_shift, ← W_per x _ (x.length - 1 + e)]
    have e1 : W x (x.length - d) ((x.length - 1 + e) % x.length) = W x (x.length - (d + 1)) (e + x.length) := by
      rw [W_per, ← W_shift x (x.length - d) (x.length - 1), show x.length - d + (x.length - 1) = x.length - (d + 1) + x.length by omega, W_shift, Nat.add_comm x.length e]
    rw [e1, ← W_per, Nat.add_mod_right, W_per]
/-- BURROWS, WHEELER: the way back leads to the word. -/
theorem IsPut.back {x t : List UInt8} {a : Nat} (h : IsPut x t a) : gt t a = x := by
  obtain ⟨σ, h1, h2, h3⟩ := h.all
  refine List.ext_getElem (by rw [gt_len, h.len]) fun i i1 i2 => ?_
  have hx : 0 < x.length := by omega
  obtain ⟨ha, h0⟩ := h3 hx
  have hit : i < t.length := by rw [h.len]; exact i2
  have e1 : (gt t a)[i] = t.getD (lf t a (t.length - 1 - i)) 0 := by unfold gt; simp
  have hlt := lf_lt t (show a < t.length by rw [h.len]; exact ha) (t.length - 1 - i)
  rw [h.len] at hlt
  rw [e1, h.len, h2 _ hlt]
  have := congrArg (fun l => l.getD (x.length - 1) 0) (lf_turn h1 h.len h2 ha h0 (x.length - 1 - i) (by omega))
  simp only [cy_get x _ (show x.length - 1 < x.length by omega)] at this
  rw [this]
  unfold W
  rw [show x.length - (x.length - 1 - i) + (x.length - 1) = i + x.length by omega, Nat.add_mod_right, Nat.mod_eq_of_lt i2, List.getD_eq_getElem?_getD, List.getElem?_eq_getElem i2, Option.getD_some]
end Tm
end Go.Proofs.Ytgkagigagcamoaa

