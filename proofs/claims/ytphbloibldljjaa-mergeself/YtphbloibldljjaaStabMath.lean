
/-
Plain mathematics of a stable sort: rows as functions of the place, exchanges, rotations, insertion, merging in place. No program is named here.
-/
namespace Go.Proofs.Ytphbloibldljjaa
namespace St

/-- g' holds in [a, b) what g holds there, in some order; elsewhere it is g. -/
structure PI (a b : Nat) (g g' : Nat → Nat) : Prop where
  out : ∀ k, k < a ∨ b ≤ k → g' k = g k
  ins : ∀ k, a ≤ k → k < b → ∃ j, a ≤ j ∧ j < b ∧ g' k = g j
  inj : (∀ x y, g x = g y → x = y) → ∀ x y, g' x = g' y → x = y
theorem PI.refl (a b : Nat) (g : Nat → Nat) : PI a b g g := ⟨fun _ _ => rfl, fun k h1 h2 => ⟨k, h1, h2, rfl⟩, fun h => h⟩
theorem PI.trans {a b : Nat} {g h i : Nat → Nat} (p : PI a b g h) (q : PI a b h i) : PI a b g i := by
  refine ⟨fun k hk => (q.out k hk).trans (p.out k hk), fun k h1 h2 => ?_, fun hg => q.inj (p.inj hg)⟩
  obtain ⟨j, j1, j2, e⟩ := q.ins k h1 h2
  obtain ⟨l, l1, l2, e2⟩ := p.ins j j1 j2
  exact ⟨l, l1, l2, e.trans e2⟩
theorem PI.mono {a b c d : Nat} {g h : Nat → Nat} (p : PI a b g h) (h1 : c ≤ a) (h2 : b ≤ d) : PI c d g h := by
  refine ⟨fun k hk => p.out k (by omega), fun k k1 k2 => ?_, p.inj⟩
  by_cases hk : a ≤ k ∧ k < b
  · obtain ⟨j, j1, j2, e⟩ := p.ins k hk.1 hk.2
    exact ⟨j, by omega, by omega, e⟩
  · exact ⟨k, k1, k2, p.out k (by omega)⟩
theorem PI.of_idx {a b : Nat} (g : Nat → Nat) (f : Nat → Nat) (h1 : ∀ k, k < a ∨ b ≤ k → f k = k) (h2 : ∀ k, a ≤ k → k < b → a ≤ f k ∧ f k < b) (h3 : ∀ x y, f x = f y → x = y) : PI a b g (fun x => g (f x)) :=
  ⟨fun k hk => by show g (f k) = g k; rw [h1 k hk], fun k k1 k2 => ⟨f k, (h2 k k1 k2).1, (h2 k k1 k2).2, rfl⟩, fun hg x y e => h3 x y (hg _ _ e)⟩

/-- Two places exchanged. -/
def swI (i j x : Nat) : Nat := if x = i then j else if x = j then i else x
theorem swI_spec (i j x : Nat) : (x = i ∧ swI i j x = j) ∨ (x ≠ i ∧ x = j ∧ swI i j x = i) ∨ (x ≠ i ∧ x ≠ j ∧ swI i j x = x) := by
  unfold swI; split
  · omega
  · split <;> omega
/-- The value of place a stands at k, what was between one place before. -/
def mvI (a k x : Nat) : Nat := if a ≤ x ∧ x < k then x + 1 else if x = k then a else x
theorem mvI_spec (a k x : Nat) : (a ≤ x ∧ x < k ∧ mvI a k x = x + 1) ∨ (¬ (a ≤ x ∧ x < k) ∧ x = k ∧ mvI a k x = a) ∨ (¬ (a ≤ x ∧ x < k) ∧ x ≠ k ∧ mvI a k x = x) := by
  unfold mvI; split
  · omega
  · split <;> omega
/-- The value of place m stands at k, what was between one place behind. -/
def mrI (m k x : Nat) : Nat := if x = k then m else if k < x ∧ x ≤ m then x - 1 else x
theorem mrI_spec (m k x : Nat) : (x = k ∧ mrI m k x = m) ∨ (x ≠ k ∧ k < x ∧ x ≤ m ∧ mrI m k x = x - 1) ∨ (x ≠ k ∧ ¬ (k < x ∧ x ≤ m) ∧ mrI m k x = x) := by
  unfold mrI; split
  · omega
  · split <;> omega
/-- The places [s, m) and [m, e) exchanged. -/
def rotI (s m e x : Nat) : Nat := if x < s ∨ e ≤ x then x else if x < s + (e - m) then x + (m - s) else x - (e - m)
theorem rotI_spec (s m e x : Nat) : ((x < s ∨ e ≤ x) ∧ rotI s m e x = x) ∨ (s ≤ x ∧ x < e ∧ x < s + (e - m) ∧ rotI s m e x = x + (m - s)) ∨ (s ≤ x ∧ x < e ∧ s + (e - m) ≤ x ∧ rotI s m e x = x - (e - m)) := by
  unfold rotI; split
  · omega
  · split <;> omega
/-- The n places from a on and those from b on exchanged. -/
def srI (a b n x : Nat) : Nat := if a ≤ x ∧ x < a + n then x + (b - a) else if b ≤ x ∧ x < b + n then x - (b - a) else x
theorem srI_spec (a b n x : Nat) : (a ≤ x ∧ x < a + n ∧ srI a b n x = x + (b - a)) ∨ (¬ (a ≤ x ∧ x < a + n) ∧ b ≤ x ∧ x < b + n ∧ srI a b n x = x - (b - a)) ∨ (¬ (a ≤ x ∧ x < a + n) ∧ ¬ (b ≤ x ∧ x < b + n) ∧ srI a b n x = x) := by
  unfold srI; split
  · omega
  · split <;> omega

theorem sr_step (a b i : Nat) (h : a + i < b) (x : Nat) : srI a b i (swI (a + i) (b + i) x) = srI a b (i + 1) x := by
  have h1 := swI_spec (a + i) (b + i) x
  have h2 := srI_spec a b i (swI (a + i) (b + i) x)
  have h3 := srI_spec a b (i + 1) x
  omega
theorem sr_zero (a b x : Nat) : srI a b 0 x = x := by have := srI_spec a b 0 x; omega
theorem mv_step (a k : Nat) (h : a ≤ k) (x : Nat) : mvI a k (swI k (k + 1) x) = mvI a (k + 1) x := by
  have h1 := swI_spec k (k + 1) x
  have h2 := mvI_spec a k (swI k (k + 1) x)
  have h3 := mvI_spec a (k + 1) x
  omega
theorem mv_zero (a x : Nat) : mvI a a x = x := by have := mvI_spec a a x; omega
theorem mr_step (m k : Nat) (h : k + 1 ≤ m) (x : Nat) : mrI m (k + 1) (swI (k + 1) k x) = mrI m k x := by
  have h1 := swI_spec (k + 1) k x
  have h2 := mrI_spec m (k + 1) (swI (k + 1) k x)
  have h3 := mrI_spec m k x
  omega
theorem mr_zero (m x : Nat) : mrI m m x = x := by have := mrI_spec m m x; omega
/-- A step of the rotation, the left part longer. -/
theorem rot_left (m i j : Nat) (him : i ≤ m) (hij : j < i) (x : Nat) : srI (m - i) m j (rotI (m - (i - j)) m (m + j) x) = rotI (m - i) m (m + j) x := by
  have h1 := rotI_spec (m - (i - j)) m (m + j) x
  have h2 := srI_spec (m - i) m j (rotI (m - (i - j)) m (m + j) x)
  have h3 := rotI_spec (m - i) m (m + j) x
  omega
/-- .. the right part longer. -/
theorem rot_right (m i j : Nat) (him : i ≤ m) (hij : i < j) (x : Nat) : srI (m - i) (m + j - i) i (rotI (m - i) m (m + (j - i)) x) = rotI (m - i) m (m + j) x := by
  have h1 := rotI_spec (m - i) m (m + (j - i)) x
  have h2 := srI_spec (m - i) (m + j - i) i (rotI (m - i) m (m + (j - i)) x)
  have h3 := rotI_spec (m - i) m (m + j) x
  omega
theorem rot_last (m i : Nat) (him : i ≤ m) (x : Nat) : srI (m - i) m i x = rotI (m - i) m (m + i) x := by
  have h2 := srI_spec (m - i) m i x
  have h3 := rotI_spec (m - i) m (m + i) x
  omega

theorem PI.sw {a b i j : Nat} (g : Nat → Nat) (h1 : a ≤ i) (h2 : i < b) (h3 : a ≤ j) (h4 : j < b) : PI a b g (fun x => g (swI i j x)) := by
  refine PI.of_idx g _ (fun k hk => ?_) (fun k k1 k2 => ?_) (fun x y e => ?_)
  · have := swI_spec i j k; omega
  · have := swI_spec i j k; omega
  · have := swI_spec i j x; have := swI_spec i j y; omega
theorem PI.mv {a b k : Nat} (g : Nat → Nat) (h1 : a ≤ k) (h2 : k < b) : PI a b g (fun x => g (mvI a k x)) := by
  refine PI.of_idx g _ (fun x hx => ?_) (fun x k1 k2 => ?_) (fun x y e => ?_)
  · have := mvI_spec a k x; omega
  · have := mvI_spec a k x; omega
  · have := mvI_spec a k x; have := mvI_spec a k y; omega
theorem PI.mr {a b m k : Nat} (g : Nat → Nat) (h0 : a ≤ k) (h1 : k ≤ m) (h2 : m < b) : PI a b g (fun x => g (mrI m k x)) := by
  refine PI.of_idx g _ (fun x hx => ?_) (fun x k1 k2 => ?_) (fun x y e => ?_)
  · have := mrI_spec m k x; omega
  · have := mrI_spec m k x; omega
  · have := mrI_spec m k x; have := mrI_spec m k y; omega
theorem PI.rot {a b s m e : Nat} (g : Nat → Nat) (h0 : a ≤ s) (h1 : s ≤ m) (h2 : m ≤ e) (h3 : e ≤ b) : PI a b g (fun x => g (rotI s m e x)) := by
  refine PI.of_idx g _ (fun x hx => ?_) (fun x k1 k2 => ?_) (fun x y ee => ?_)
  · have := rotI_spec s m e x; omega
  · have := rotI_spec s m e x; omega
  · have := rotI_spec s m e x; have := rotI_spec s m e y; omega

/-- The order that a stable sort asks for: by 'lt', of two equals the earlier number first. -/
structure Ord (lt R : Nat → Nat → Prop) : Prop where
  tr : ∀ {x y z}, R x y → R y z → R x z
  yes : ∀ {x y}, x < y → lt y x → R y x
  no : ∀ {x y}, x < y → ¬ lt y x → R x y

def Srt (R : Nat → Nat → Prop) (a b : Nat) (g : Nat → Nat) : Prop := ∀ i j, a ≤ i → i < j → j < b → R (g i) (g j)
/-- What stands in [a, m) is earlier than what stands in [m, b). -/
def Erl (a m b : Nat) (g : Nat → Nat) : Prop := ∀ i j, a ≤ i → i < m → m ≤ j → j < b → g i < g j
variable {lt R : Nat → Nat → Prop}

/-- Insertion under way: the value v of place i has come down to j. -/
structure Ins (R : Nat → Nat → Prop) (a i j v : Nat) (h : Nat → Nat) : Prop where
  ord : ∀ x y, a ≤ x → x < y → y ≤ i → y ≠ j → R (h x) (h y)
  early : ∀ x, a ≤ x → x ≤ i → x ≠ j → h x < v
  at_ : h j = v
  ja : a ≤ j
  ji : j ≤ i
theorem Ins.start {a i : Nat} {h : Nat → Nat} (hai : a ≤ i) (hs : Srt R a i h) (he : Erl a i (i + 1) h) : Ins R a i i (h i) h :=
  ⟨fun x y h1 h2 h3 h4 => hs x y h1 h2 (by omega), fun x h1 h2 h3 => he x i h1 (by omega) (Nat.le_refl _) (by omega), rfl, hai, Nat.le_refl _⟩
theorem Ins.step {a i j v : Nat} {h : Nat → Nat} (O : Ord lt R) (p : Ins R a i (j + 1) v h) (hj : a ≤ j) (hl : lt v (h j)) : Ins R a i j v (fun x => h (swI (j + 1) j x)) := by
  have hji := p.ji
  have hv : R v (h j) := O.yes (p.early j hj (by omega) (by omega)) hl
  have e0 : ∀ x, x ≠ j → x ≠ j + 1 → swI (j + 1) j x = x := fun x h1 h2 => by have := swI_spec (j + 1) j x; omega
  have e1 : swI (j + 1) j j = j + 1 := by have := swI_spec (j + 1) j j; omega
  have e2 : swI (j + 1) j (j + 1) = j := by have := swI_spec (j + 1) j (j + 1); omega
  refine ⟨fun x y h1 h2 h3 h4 => ?_, fun x h1 h2 h3 => ?_, ?_, hj, by omega⟩
  · show R (h (swI (j + 1) j x)) (h (swI (j + 1) j y))
    by_cases hx : x = j
    · subst hx
      rw [e1, p.at_]
      by_cases hy : y = x + 1
      · subst hy; rw [e2]; exact hv
      · rw [e0 y (by omega) hy, ← p.at_]
        exact p.ord (x + 1) y (by omega) (by omega) h3 hy
    · by_cases hx1 : x = j + 1
      · subst hx1
        rw [e2, e0 y (by omega) (by omega)]
        exact p.ord j y hj (by omega) h3 (by omega)
      · rw [e0 x hx hx1]
        by_cases hy : y = j + 1
        · subst hy; rw [e2]
          exact p.ord x j h1 (by omega) (by omega) (by omega)
        · rw [e0 y h4 hy]
          exact p.ord x y h1 h2 h3 hy
  · show h (swI (j + 1) j x) < v
    by_cases hx1 : x = j + 1
    · subst hx1; rw [e2]; exact p.early j hj (by omega) (by omega)
    · rw [e0 x h3 hx1]; exact p.early x h1 h2 hx1
  · show h (swI (j + 1) j j) = v
    rw [e1]; exact p.at_
theorem Ins.low {a i v : Nat} {h : Nat → Nat} (p : Ins R a i a v h) : Srt R a (i + 1) h := fun x y h1 h2 h3 => p.ord x y h1 h2 (by omega) (by omega)
theorem Ins.done {a i j v : Nat} {h : Nat → Nat} (O : Ord lt R) (p : Ins R a i (j + 1) v h) (hj : a ≤ j) (hl : ¬ lt v (h j)) : Srt R a (i + 1) h := by
  have hji := p.ji
  have hv : R (h j) v := O.no (p.early j hj (by omega) (by omega)) hl
  intro x y h1 h2 h3
  by_cases hy : y = j + 1
  · subst hy
    rw [p.at_]
    by_cases hx : x = j
    · subst hx; exact hv
    · exact O.tr (p.ord x j h1 (by omega) (by omega) (by omega)) hv
  · exact p.ord x y h1 h2 (by omega) hy
theorem erl_of_inc {a i b : Nat} {g h : Nat → Nat} (hg : ∀ x y, a ≤ x → x < y → y < b → g x < g y) (hp : PI a i g h) : Erl a i b h := by
  intro x y h1 h2 h3 h4
  obtain ⟨k, k1, k2, e⟩ := hp.ins x h1 h2
  rw [e, hp.out y (.inr h3)]
  exact hg k y k1 (by omega) h4

/-- One value in front of a run. -/
theorem left_yes {a m b c : Nat} {g : Nat → Nat} (O : Ord lt R) (ham : a < m) (hs : Srt R m b g) (he : Erl a m b g) (h1 : m ≤ c) (h2 : c < b) (hl : lt (g c) (g a)) :
    ∀ x, m ≤ x → x < c + 1 → R (g x) (g a) := by
  intro x x1 x2
  have hc : R (g c) (g a) := O.yes (he a c (Nat.le_refl _) ham h1 h2) hl
  by_cases hx : x = c
  · subst hx; exact hc
  · exact O.tr (hs x c x1 (by omega) h2) hc
theorem left_no {a m b c : Nat} {g : Nat → Nat} (O : Ord lt R) (ham : a < m) (hs : Srt R m b g) (he : Erl a m b g) (h1 : m ≤ c) (h2 : c < b) (hl : ¬ lt (g c) (g a)) :
    ∀ x, c ≤ x → x < b → R (g a) (g x) := by
  intro x x1 x2
  have hc : R (g a) (g c) := O.no (he a c (Nat.le_refl _) ham h1 h2) hl
  by_cases hx : x = c
  · subst hx; exact hc
  · exact O.tr hc (hs c x h1 (by omega) x2)
theorem left_srt {a b i : Nat} {g : Nat → Nat} (hs : Srt R (a + 1) b g) (h1 : a + 1 ≤ i) (h2 : i ≤ b) (hl : ∀ x, a + 1 ≤ x → x < i → R (g x) (g a)) (hr : ∀ x, i ≤ x → x < b → R (g a) (g x)) :
    Srt R a b (fun x => g (mvI a (i - 1) x)) := by
  intro x y x1 x2 x3
  show R (g (mvI a (i - 1) x)) (g (mvI a (i - 1) y))
  by_cases hx : x < i - 1
  · have e1 : mvI a (i - 1) x = x + 1 := by have := mvI_spec a (i - 1) x; omega
    rw [e1]
    by_cases hy : y < i - 1
    · have e2 : mvI a (i - 1) y = y + 1 := by have := mvI_spec a (i - 1) y; omega
      rw [e2]; exact hs _ _ (by omega) (by omega) (by omega)
    · by_cases hy2 : y = i - 1
      · have e2 : mvI a (i - 1) y = a := by have := mvI_spec a (i - 1) y; omega
        rw [e2]; exact hl _ (by omega) (by omega)
      · have e2 : mvI a (i - 1) y = y := by have := mvI_spec a (i - 1) y; omega
        rw [e2]; exact hs _ _ (by omega) (by omega) (by omega)
  · have e2 : mvI a (i - 1) y = y := by have := mvI_spec a (i - 1) y; omega
    rw [e2]
    by_cases hx2 : x = i - 1
    · have e1 : mvI a (i - 1) x = a := by have := mvI_spec a (i - 1) x; omega
      rw [e1]; exact hr _ (by omega) x3
    · have e1 : mvI a (i - 1) x = x := by have := mvI_spec a (i - 1) x; omega
      rw [e1]; exact hs _ _ (by omega) (by omega) (by omega)
/-- One value behind a run. -/
theorem right_no {a m c : Nat} {g : Nat → Nat} (O : Ord lt R) (hs : Srt R a m g) (he : Erl a m (m + 1) g) (h1 : a ≤ c) (h2 : c < m) (hl : ¬ lt (g m) (g c)) :
    ∀ x, a ≤ x → x < c + 1 → R (g x) (g m) := by
  intro x x1 x2
  have hc : R (g c) (g m) := O.no (he c m h1 h2 (Nat.le_refl _) (by omega)) hl
  by_cases hx : x = c
  · subst hx; exact hc
  · exact O.tr (hs x c x1 (by omega) h2) hc
theorem right_yes {a m c : Nat} {g : Nat → Nat} (O : Ord lt R) (hs : Srt R a m g) (he : Erl a m (m + 1) g) (h1 : a ≤ c) (h2 : c < m) (hl : lt (g m) (g c)) :
    ∀ x, c ≤ x → x < m → R (g m) (g x) := by
  intro x x1 x2
  have hc : R (g m) (g c) := O.yes (he c m h1 h2 (Nat.le_refl _) (by omega)) hl
  by_cases hx : x = c
  · subst hx; exact hc
  · exact O.tr hc (hs c x h1 (by omega) x2)
theorem right_srt {a m i : Nat} {g : Nat → Nat} (hs : Srt R a m g) (h1 : a ≤ i) (h2 : i ≤ m) (hl : ∀ x, a ≤ x → x < i → R (g x) (g m)) (hr : ∀ x, i ≤ x → x < m → R (g m) (g x)) :
    Srt R a (m + 1) (fun x => g (mrI m i x)) := by
  intro x y x1 x2 x3
  show R (g (mrI m i x)) (g (mrI m i y))
  by_cases hy : y < i
  · have e1 : mrI m i x = x := by have := mrI_spec m i x; omega
    have e2 : mrI m i y = y := by have := mrI_spec m i y; omega
    rw [e1, e2]; exact hs _ _ x1 x2 (by omega)
  · by_cases hy2 : y = i
    · have e1 : mrI m i x = x := by have := mrI_spec m i x; omega
      have e2 : mrI m i y = m := by have := mrI_spec m i y; omega
      rw [e1, e2]; exact hl _ x1 (by omega)
    · have e2 : mrI m i y = y - 1 := by have := mrI_spec m i y; omega
      rw [e2]
      by_cases hx : x < i
      · have e1 : mrI m i x = x := by have := mrI_spec m i x; omega
        rw [e1]; exact hs _ _ x1 (by omega) (by omega)
      · by_cases hx2 : x = i
        · have e1 : mrI m i x = m := by have := mrI_spec m i x; omega
          rw [e1]; exact hr _ (by omega) (by omega)
        · have e1 : mrI m i x = x - 1 := by have := mrI_spec m i x; omega
          rw [e1]; exact hs _ _ (by omega) (by omega) (by omega)

/-- The search for the place to cut two runs at. -/
theorem mid_no {a m b p c s0 : Nat} {g : Nat → Nat} (O : Ord lt R) (h1 : Srt R a m g) (h2 : Srt R m b g) (he : Erl a m b g) (hs0 : a ≤ s0) (hc0 : s0 ≤ c) (hc : c < m) (hp : m + c ≤ p) (hb : p < b + s0) (hl : ¬ lt (g (p - c)) (g c)) :
    ∀ x, s0 ≤ x → x < c + 1 → R (g x) (g (p - x)) := by
  intro x x1 x2
  have hcc : R (g c) (g (p - c)) := O.no (he c (p - c) (by omega) hc (by omega) (by omega)) hl
  by_cases hx : x = c
  · subst hx; exact hcc
  · exact O.tr (O.tr (h1 x c (by omega) (by omega) hc) hcc) (h2 (p - c) (p - x) (by omega) (by omega) (by omega))
theorem mid_yes {a m b p c r0 : Nat} {g : Nat → Nat} (O : Ord lt R) (h1 : Srt R a m g) (h2 : Srt R m b g) (he : Erl a m b g) (hs0 : a ≤ c) (hr : r0 ≤ m) (hc : c < r0) (hp : m + r0 ≤ p + 1) (hb : p < b + c) (hl : lt (g (p - c)) (g c)) :
    ∀ x, c ≤ x → x < r0 → R (g (p - x)) (g x) := by
  intro x x1 x2
  have hcc : R (g (p - c)) (g c) := O.yes (he c (p - c) (by omega) (by omega) (by omega) (by omega)) hl
  by_cases hx : x = c
  · subst hx; exact hcc
  · exact O.tr (O.tr (h2 (p - x) (p - c) (by omega) (by omega) (by omega)) hcc) (h1 c x (by omega) (by omega) (by omega))

/-- What the rotation leaves: two pairs of runs, all of the first pair before all of the second. -/
structure Cutd (R : Nat → Nat → Prop) (a s mid e b : Nat) (h : Nat → Nat) : Prop where
  s1 : Srt R a s h
  s2 : Srt R s mid h
  s3 : Srt R mid e h
  s4 : Srt R e b h
  e1 : Erl a s mid h
  e2 : Erl mid e b h
  cross : ∀ x y, a ≤ x → x < mid → mid ≤ y → y < b → R (h x) (h y)
theorem cut_rot {a m b s mid e : Nat} {g : Nat → Nat} (O : Ord lt R) (h1 : Srt R a m g) (h2 : Srt R m b g) (he : Erl a m b g)
    (has : a ≤ s) (hsm : s ≤ m) (hsd : s ≤ mid) (hee : e + s = mid + m) (heb : e ≤ b)
    (hL : a < s → e < b → R (g (s - 1)) (g e)) (hR : s < m → m < e → R (g (e - 1)) (g s)) : Cutd R a s mid e b (fun x => g (rotI s m e x)) := by
  have r1 : ∀ x, x < s → rotI s m e x = x := fun x hx => by have := rotI_spec s m e x; omega
  have r2 : ∀ x, s ≤ x → x < mid → rotI s m e x = x + (m - s) := fun x hx hx2 => by have := rotI_spec s m e x; omega
  have r3 : ∀ x, mid ≤ x → x < e → rotI s m e x = x - (e - m) := fun x hx hx2 => by have := rotI_spec s m e x; omega
  have r4 : ∀ x, e ≤ x → rotI s m e x = x := fun x hx => by have := rotI_spec s m e x; omega
  have up : ∀ x y, a ≤ x → x ≤ y → y < m → ∀ z, R (g y) z → R (g x) z := fun x y x1 x2 x3 z hz => by
    by_cases hxy : x = y
    · subst hxy; exact hz
    · exact O.tr (h1 x y x1 (by omega) x3) hz
  have up2 : ∀ x y, m ≤ x → x ≤ y → y < b → ∀ z, R (g y) z → R (g x) z := fun x y x1 x2 x3 z hz => by
    by_cases hxy : x = y
    · subst hxy; exact hz
    · exact O.tr (h2 x y x1 (by omega) x3) hz
  have dn : ∀ x y, a ≤ x → x ≤ y → y < m → ∀ z, R z (g x) → R z (g y) := fun x y x1 x2 x3 z hz => by
    by_cases hxy : x = y
    · subst hxy; exact hz
    · exact O.tr hz (h1 x y x1 (by omega) x3)
  have dn2 : ∀ x y, m ≤ x → x ≤ y → y < b → ∀ z, R z (g x) → R z (g y) := fun x y x1 x2 x3 z hz => by
    by_cases hxy : x = y
    · subst hxy; exact hz
    · exact O.tr hz (h2 x y x1 (by omega) x3)
  refine ⟨fun x y x1 x2 x3 => ?_, fun x y x1 x2 x3 => ?_, fun x y x1 x2 x3 => ?_, fun x y x1 x2 x3 => ?_, fun x y x1 x2 x3 x4 => ?_, fun x y x1 x2 x3 x4 => ?_, fun x y x1 x2 x3 x4 => ?_⟩
  · show R (g (rotI s m e x)) (g (rotI s m e y))
    rw [r1 x (by omega), r1 y x3]; exact h1 _ _ x1 x2 (by omega)
  · show R (g (rotI s m e x)) (g (rotI s m e y))
    rw [r2 x x1 (by omega), r2 y (by omega) x3]; exact h2 _ _ (by omega) (by omega) (by omega)
  · show R (g (rotI s m e x)) (g (rotI s m e y))
    rw [r3 x x1 (by omega), r3 y (by omega) x3]; exact h1 _ _ (by omega) (by omega) (by omega)
  · show R (g (rotI s m e x)) (g (rotI s m e y))
    rw [r4 x x1, r4 y (by omega)]; exact h2 _ _ (by omega) x2 x3
  · show g (rotI s m e x) < g (rotI s m e y)
    rw [r1 x x2, r2 y x3 x4]; exact he _ _ x1 (by omega) (by omega) (by omega)
  · show g (rotI s m e x) < g (rotI s m e y)
    rw [r3 x x1 x2, r4 y x3]; exact he _ _ (by omega) (by omega) (by omega) x4
  · show R (g (rotI s m e x)) (g (rotI s m e y))
    by_cases hx : x < s
    · rw [r1 x hx]
      by_cases hy : y < e
      · rw [r3 y x3 hy]; exact h1 _ _ x1 (by omega) (by omega)
      · rw [r4 y (by omega)]
        exact up x (s - 1) x1 (by omega) (by omega) _ (dn2 e y (by omega) (by omega) x4 _ (hL (by omega) (by omega)))
    · rw [r2 x (by omega) x2]
      by_cases hy : y < e
      · rw [r3 y x3 hy]
        exact up2 _ (e - 1) (by omega) (by omega) (by omega) _ (dn s _ (by omega) (by omega) (by omega) _ (hR (by omega) (by omega)))
      · rw [r4 y (by omega)]; exact h2 _ _ (by omega) (by omega) x4
/-- Sorted parts, one before the other. -/
theorem srt_join {a mid b : Nat} {h : Nat → Nat} (h1 : Srt R a mid h) (h2 : Srt R mid b h) (hc : ∀ x y, a ≤ x → x < mid → mid ≤ y → y < b → R (h x) (h y)) : Srt R a b h := by
  intro x y x1 x2 x3
  by_cases hy : y < mid
  · exact h1 x y x1 x2 hy
  · by_cases hx : x < mid
    · exact hc x y x1 hx (by omega) x3
    · exact h2 x y (by omega) x2 x3
theorem Srt.congr {a b : Nat} {g h : Nat → Nat} (e : ∀ x, a ≤ x → x < b → h x = g x) (p : Srt R a b g) : Srt R a b h := fun x y h1 h2 h3 => by
  rw [e x h1 (by omega), e y (by omega) h3]; exact p x y h1 h2 h3
theorem Erl.congr {a m b : Nat} {g h : Nat → Nat} (e : ∀ x, a ≤ x → x < b → h x = g x) (p : Erl a m b g) : Erl a m b h := fun x y h1 h2 h3 h4 => by
  rw [e x h1 (by omega), e y (by omega) h4]; exact p x y h1 h2 h3 h4
/-- Behind the two calls. -/
theorem cut_join {a s mid e b : Nat} {h1 h2 h3 : Nat → Nat} (c : Cutd R a s mid e b h1) (p : PI a mid h1 h2) (q : PI mid b h2 h3) (s2 : Srt R a mid h2) (s3 : Srt R mid b h3) : Srt R a b h3 := by
  refine srt_join (mid := mid) (s2.congr fun x x1 x2 => q.out x (.inl x2)) s3 fun x y x1 x2 x3 x4 => ?_
  rw [q.out x (.inl x2)]
  obtain ⟨i, i1, i2, ei⟩ := p.ins x x1 x2
  obtain ⟨j, j1, j2, ej⟩ := q.ins y x3 x4
  rw [ei, ej, p.out j (.inr j1)]
  exact c.cross i j i1 i2 j1 j2
theorem Cutd.left {a s mid e b : Nat} {h : Nat → Nat} (c : Cutd R a s mid e b h) (hn : ¬ (a < s ∧ s < mid)) (h1 : a ≤ s) (h2 : s ≤ mid) : Srt R a mid h := by
  by_cases hs : a < s
  · obtain rfl : s = mid := by omega
    exact c.s1
  · obtain rfl : a = s := by omega
    exact c.s2
theorem Cutd.right {a s mid e b : Nat} {h h' : Nat → Nat} (c : Cutd R a s mid e b h) (hh : ∀ x, mid ≤ x → h' x = h x) (hn : ¬ (mid < e ∧ e < b)) (h1 : mid ≤ e) (h2 : e ≤ b) : Srt R mid b h' := by
  refine Srt.congr (g := h) (fun x x1 _ => hh x x1) ?_
  by_cases hs : mid < e
  · obtain rfl : e = b := by omega
    exact c.s3
  · obtain rfl : mid = e := by omega
    exact c.s4

/-- What stands below c are the numbers below c. -/
def Ct (c : Nat) (g : Nat → Nat) : Prop := ∀ k, (k < c → g k < c) ∧ (c ≤ k → c ≤ g k)
theorem Ct.pi {a b c : Nat} {g h : Nat → Nat} (p : PI a b g h) (q : Ct c g) (hc : c ≤ a ∨ b ≤ c) : Ct c h := by
  intro k
  by_cases hk : a ≤ k ∧ k < b
  · obtain ⟨j, j1, j2, e⟩ := p.ins k hk.1 hk.2
    rw [e]
    exact ⟨fun h1 => (q j).1 (by omega), fun h1 => (q j).2 (by omega)⟩
  · rw [p.out k (by omega)]; exact q k
theorem Ct.erl {a m b : Nat} {g : Nat → Nat} (q : Ct m g) : Erl a m b g := fun i j _ h2 h3 _ => by
  have := (q i).1 h2
  have := (q j).2 h3
  omega
/-- The first phase: blocks of 20 are sorted up to a. -/
structure P1 (R : Nat → Nat → Prop) (n a : Nat) (g : Nat → Nat) : Prop where
  all : PI 0 n id g
  same : ∀ k, a ≤ k → g k = k
  mul : ∃ q, a = q * 20
  le : a ≤ n
  ct : ∀ q, Ct (q * 20) g
  srt : ∀ q, (q + 1) * 20 ≤ a → Srt R (q * 20) ((q + 1) * 20) g
theorem P1.start (R : Nat → Nat → Prop) (n : Nat) : P1 R n 0 id :=
  ⟨PI.refl _ _ _, fun _ _ => rfl, ⟨0, rfl⟩, Nat.zero_le _, fun q k => ⟨fun h => h, fun h => h⟩, fun q hq => by omega⟩
theorem P1.inc {n a : Nat} {g : Nat → Nat} (p : P1 R n a g) (b : Nat) : ∀ x y, a ≤ x → x < y → y < b → g x < g y := fun x y h1 h2 _ => by
  rw [p.same x h1, p.same y (by omega)]; exact h2
theorem P1.step {n a : Nat} {g h : Nat → Nat} (p : P1 R n a g) (hn : a + 20 ≤ n) (q : PI a (a + 20) g h) (s : Srt R a (a + 20) h) : P1 R n (a + 20) h := by
  obtain ⟨q0, e0⟩ := p.mul
  refine ⟨p.all.trans (q.mono (by omega) hn), fun k hk => (q.out k (.inr hk)).trans (p.same k (by omega)), ⟨q0 + 1, by omega⟩, hn, fun q1 => (p.ct q1).pi q (by omega), fun q1 h1 => ?_⟩
  by_cases hq : (q1 + 1) * 20 ≤ a
  · exact (p.srt q1 hq).congr fun x _ x2 => q.out x (.inl (by omega))
  · obtain rfl : q1 = q0 := by omega
    rw [show q1 * 20 = a by omega, show (q1 + 1) * 20 = a + 20 by omega]
    exact s
/-- All blocks of size z are sorted. -/
structure BlkOk (R : Nat → Nat → Prop) (z n : Nat) (g : Nat → Nat) : Prop where
  all : PI 0 n id g
  ct : ∀ q, Ct (q * z) g
  srt : ∀ q, Srt R (q * z) (min ((q + 1) * z) n) g
theorem P1.last {n a : Nat} {g h : Nat → Nat} (p : P1 R n a g) (hn : n < a + 20) (q : PI a n g h) (s : Srt R a n h) : BlkOk R 20 n h := by
  obtain ⟨q0, e0⟩ := p.mul
  have := p.le
  refine ⟨p.all.trans (q.mono (by omega) (Nat.le_refl _)), fun q1 => (p.ct q1).pi q (by omega), fun q1 => ?_⟩
  by_cases hq : (q1 + 1) * 20 ≤ a
  · rw [show min ((q1 + 1) * 20) n = (q1 + 1) * 20 by omega]
    exact (p.srt q1 hq).congr fun x _ x2 => q.out x (.inl (by omega))
  · by_cases h1 : q1 = q0
    · subst h1
      rw [show q1 * 20 = a by omega, show min ((q1 + 1) * 20) n = n by omega]
      exact s
    · intro x y x1 x2 x3
      omega
/-- The blocks of size z up to n are sorted, from the block at a on; those before are of twice the size. -/
structure Blk (R : Nat → Nat → Prop) (z n a : Nat) (g : Nat → Nat) : Prop where
  all : PI 0 n id g
  pos : 0 < z
  mul : ∃ q, a = q * (2 * z)
  ct : ∀ q, a ≤ q * z → Ct (q * z) g
  srt : ∀ q, a ≤ q * z → Srt R (q * z) (min ((q + 1) * z) n) g
  ct2 : ∀ q, Ct (q * (2 * z)) g
  srt2 : ∀ q, (q + 1) * (2 * z) ≤ a → Srt R (q * (2 * z)) ((q + 1) * (2 * z)) g
theorem twice (q z : Nat) : q * (2 * z) = (2 * q) * z := by rw [Nat.mul_comm 2 q, Nat.mul_assoc]
theorem more (q z : Nat) : (q + 1) * z = q * z + z := Nat.succ_mul q z
theorem BlkOk.start {z n : Nat} {g : Nat → Nat} (p : BlkOk R z n g) (hz : 0 < z) : Blk R z n 0 g :=
  ⟨p.all, hz, ⟨0, by omega⟩, fun q _ => p.ct q, fun q _ => p.srt q, fun q => by rw [twice]; exact p.ct _, fun q h => by rw [more q (2 * z)] at h; omega⟩
/-- What a merge asks for. -/
theorem Blk.ask {z n a m b : Nat} {g : Nat → Nat} (p : Blk R z n a g) (hm : m = a + z) (hmn : m ≤ n) (hb : b = min (m + z) n) : Srt R a m g ∧ Srt R m b g ∧ Erl a m b g := by
  subst hm hb
  obtain ⟨q, e⟩ := p.mul
  rw [twice] at e
  have h1 := p.srt (2 * q) (by omega)
  have h2 := p.srt (2 * q + 1) (by rw [more (2 * q) z]; omega)
  have h3 := p.ct (2 * q + 1) (by rw [more (2 * q) z]; omega)
  rw [more (2 * q + 1) z, more (2 * q) z, ← e] at h2
  rw [more (2 * q) z, ← e] at h1
  rw [more (2 * q) z, ← e] at h3
  rw [show min (a + z) n = a + z by omega] at h1
  exact ⟨h1, h2, h3.erl⟩
theorem Blk.step {z n a b : Nat} {g h : Nat → Nat} (p : Blk R z n a g) (hb : b = a + 2 * z) (hn : b ≤ n) (q : PI a b g h) (s : Srt R a b h) : Blk R z n b h := by
  subst hb
  obtain ⟨q0, e0⟩ := p.mul
  have hz := p.pos
  have far : ∀ q1, q1 * (2 * z) ≤ a ∨ a + 2 * z ≤ q1 * (2 * z) := fun q1 => by
    rcases Nat.lt_or_ge q0 q1 with h1 | h1
    · refine .inr ?_
      have := Nat.mul_le_mul_right (2 * z) (show q0 + 1 ≤ q1 from h1)
      rw [more q0 (2 * z)] at this
      omega
    · refine .inl ?_
      have := Nat.mul_le_mul_right (2 * z) h1
      omega
  refine ⟨p.all.trans (q.mono (by omega) hn), hz, ⟨q0 + 1, by rw [more q0 (2 * z)]; omega⟩, fun q1 h1 => (p.ct q1 (by omega)).pi q (.inr h1), fun q1 h1 => (p.srt q1 (by omega)).congr fun x x1 _ => q.out x (.inr (by omega)), fun q1 => (p.ct2 q1).pi q (far q1), fun q1 h1 => ?_⟩
  by_cases hq : (q1 + 1) * (2 * z) ≤ a
  · exact (p.srt2 q1 hq).congr fun x _ x2 => q.out x (.inl (by omega))
  · have e1 : q1 * (2 * z) = a := by
      rw [more q1 (2 * z)] at h1 hq
      rcases far q1 with h2 | h2
      · rcases far (q1 + 1) with h3 | h3
        · rw [more q1 (2 * z)] at h3; omega
        · rw [more q1 (2 * z)] at h3; omega
      · omega
    rw [more q1 (2 * z), e1]
    exact s
theorem Blk.last {z n a : Nat} {g h : Nat → Nat} (p : Blk R z n a g) (hn : n < a + 2 * z) (q : PI a n g h) (s : Srt R a n h) (han : a ≤ n) : BlkOk R (2 * z) n h := by
  obtain ⟨q0, e0⟩ := p.mul
  have hz := p.pos
  have far : ∀ q1, q1 * (2 * z) ≤ a ∨ a + 2 * z ≤ q1 * (2 * z) := fun q1 => by
    rcases Nat.lt_or_ge q0 q1 with h1 | h1
    · refine .inr ?_
      have := Nat.mul_le_mul_right (2 * z) (show q0 + 1 ≤ q1 from h1)
      rw [more q0 (2 * z)] at this
      omega
    · refine .inl ?_
      have := Nat.mul_le_mul_right (2 * z) h1
      omega
  refine ⟨p.all.trans (q.mono (by omega) (Nat.le_refl _)), fun q1 => (p.ct2 q1).pi q (by have := far q1; omega), fun q1 => ?_⟩
  rcases far (q1 + 1) with h1 | h1
  · rw [show min ((q1 + 1) * (2 * z)) n = (q1 + 1) * (2 * z) by omega]
    exact (p.srt2 q1 h1).congr fun x _ x2 => q.out x (.inl (by omega))
  · rcases far q1 with h2 | h2
    · have e1 : q1 * (2 * z) = a := by rw [more q1 (2 * z)] at h1; omega
      rw [show min ((q1 + 1) * (2 * z)) n = n by omega, e1]
      exact s
    · intro x y x1 x2 x3
      omega
/-- The last blocks, if no second one is there. -/
theorem Blk.tail {z n a : Nat} {g : Nat → Nat} (p : Blk R z n a g) (hn : n ≤ a + z) : Srt R a n g := by
  obtain ⟨q, e⟩ := p.mul
  rw [twice] at e
  have h1 := p.srt (2 * q) (by omega)
  rw [more (2 * q) z, ← e, show min (a + z) n = n by omega] at h1
  exact h1
theorem BlkOk.end_ {z n : Nat} {g : Nat → Nat} (p : BlkOk R z n g) (h : n ≤ z) : Srt R 0 n g := by
  have h1 := p.srt 0
  rw [show min ((0 + 1) * z) n = n by omega, Nat.zero_mul] at h1
  exact h1
end St
end Go.Proofs.Ytphbloibldljjaa
