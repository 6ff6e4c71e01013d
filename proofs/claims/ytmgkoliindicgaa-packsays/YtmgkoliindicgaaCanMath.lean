/-
Plain mathematics on codes: the words of a number's bits, the code that is made of lengths, words in order of which none begins the next, what a search through all that may be over finds. No program is named here.
-/
import Derived.Test.YtmgkoliindicgaaCodeMath
namespace Go.Proofs.Ytmgkoliindicgaa
namespace Cm

/-- The lowest n bits of x, the highest one first. -/
def bits : Nat → Nat → Wd
  | 0, _ => []
  | n + 1, x => (if x / 2 ^ n % 2 = 1 then 49 else 48) :: bits n x
theorem bits_len : ∀ (n x : Nat), (bits n x).length = n
  | 0, _ => rfl
  | n + 1, x => by unfold bits; rw [List.length_cons, bits_len n x]
theorem bits_are : ∀ (n x : Nat), Bits (bits n x)
  | 0, _ => fun b h => by cases h
  | n + 1, x => by
    intro b h
    unfold bits at h
    rcases List.mem_cons.1 h with rfl | h
    · by_cases hx : x / 2 ^ n % 2 = 1
      · rw [if_pos hx]; exact .inr rfl
      · rw [if_neg hx]; exact .inl rfl
    · exact bits_are n x b h
/-- w may not be taken behind v: it is not greater, or begins with it. -/
def Bad (v w : Wd) : Prop := ¬ v < w ∨ v <+: w
theorem bad_cons {a b : UInt8} {v w : Wd} : Bad (a :: v) (b :: w) ↔ b < a ∨ (a = b ∧ Bad v w) := by
  unfold Bad
  rw [List.cons_lt_cons_iff, List.cons_prefix_cons]
  by_cases h : a = b
  · subst h
    have : ¬ a < a := UInt8.lt_irrefl a
    simp [this]
  · have h2 : b < a ↔ ¬ a < b := ⟨fun h1 h3 => UInt8.lt_asymm h1 h3, fun h1 => by
      rcases UInt8.lt_or_lt_of_ne h with h3 | h3
      · exact absurd h3 h1
      · exact h3⟩
    simp [h, h2]
theorem bad_bits : ∀ (m n x y : Nat), m ≤ n → (Bad (bits m y) (bits n x) ↔ x % 2 ^ n < (y % 2 ^ m + 1) * 2 ^ (n - m))
  | 0, n, x, y, _ => by
    constructor
    · intro _
      have := Nat.mod_lt x (Nat.two_pow_pos n)
      simpa [Nat.mod_one] using this
    · intro _; exact .inr List.nil_prefix
  | m + 1, 0, x, y, h => by omega
  | m + 1, n + 1, x, y, h => by
    have ih := bad_bits m n x y (by omega)
    unfold bits
    rw [bad_cons, ih, Nat.mod_pow_succ, Nat.mod_pow_succ, Nat.add_sub_add_right]
    have hQ : 2 ^ n = 2 ^ m * 2 ^ (n - m) := by rw [← Nat.pow_add, Nat.add_sub_cancel' (by omega)]
    have hP := Nat.mod_lt y (Nat.two_pow_pos m)
    have hX := Nat.mod_lt x (Nat.two_pow_pos n)
    have b1 := Nat.mod_lt (y / 2 ^ m) (show 0 < 2 by omega)
    have b2 := Nat.mod_lt (x / 2 ^ n) (show 0 < 2 by omega)
    generalize y / 2 ^ m % 2 = by_ at b1
    generalize x / 2 ^ n % 2 = bx at b2
    generalize hr : 2 ^ (n - m) = R at *
    generalize 2 ^ m = P at *
    generalize 2 ^ n = Q at *
    generalize y % P = yp at *
    generalize x % Q = xq at *
    subst hQ
    have hle : (yp + 1) * R ≤ P * R := Nat.mul_le_mul_right R hP
    have e1 : (yp + P + 1) * R = (yp + 1) * R + P * R := by rw [← Nat.add_mul]; congr 1; omega
    rcases (show by_ = 0 ∨ by_ = 1 by omega) with rfl | rfl
    · rcases (show bx = 0 ∨ bx = 1 by omega) with rfl | rfl
      · simp [UInt8.lt_irrefl]
      · simp only [if_neg (show ¬ (0 = 1) by decide), if_true, Nat.mul_zero, Nat.add_zero, Nat.mul_one]
        constructor
        · rintro (h1 | ⟨h1, _⟩)
          · exact absurd h1 (by decide)
          · exact absurd h1 (by decide)
        · intro h1; omega
    · rcases (show bx = 0 ∨ bx = 1 by omega) with rfl | rfl
      · simp only [if_neg (show ¬ (0 = 1) by decide), if_true, Nat.mul_zero, Nat.add_zero, Nat.mul_one]
        constructor
        · intro _; rw [e1]; omega
        · intro _; exact .inl (by decide)
      · simp only [if_true, Nat.mul_one, true_and]
        rw [e1]
        constructor
        · rintro (h1 | h1)
          · exact absurd h1 (by decide)
          · omega
        · intro h1; exact .inr (by omega)
/-- The words A fill all below p, one behind the other. -/
def Til (A : List Wd) (n p : Nat) : Prop :=
  (∀ v ∈ A, ∃ m y, v = bits m y ∧ m ≤ n ∧ y < 2 ^ m ∧ (y + 1) * 2 ^ (12 - m) ≤ p) ∧ (p = 0 ∨ ∃ m y, bits m y ∈ A ∧ m ≤ n ∧ y < 2 ^ m ∧ (y + 1) * 2 ^ (12 - m) = p)
theorem Til.zero (n : Nat) : Til [] n 0 := ⟨fun v h => (by cases h), .inl rfl⟩
theorem Til.more {A : List Wd} {n n' p : Nat} (h : Til A n p) (hn : n ≤ n') : Til A n' p := by
  refine ⟨fun v hv => ?_, ?_⟩
  · obtain ⟨m, y, h1, h2, h3⟩ := h.1 v hv
    exact ⟨m, y, h1, by omega, h3⟩
  · rcases h.2 with h1 | ⟨m, y, h1, h2, h3⟩
    · exact .inl h1
    · exact .inr ⟨m, y, h1, by omega, h3⟩
theorem bad_at {m n x y : Nat} (hmn : m ≤ n) (hn : n ≤ 12) (hx : x < 2 ^ n) (hy : y < 2 ^ m) : Bad (bits m y) (bits n x) ↔ x * 2 ^ (12 - n) < (y + 1) * 2 ^ (12 - m) := by
  rw [bad_bits m n x y hmn, Nat.mod_eq_of_lt hx, Nat.mod_eq_of_lt hy]
  have e : 2 ^ (12 - m) = 2 ^ (n - m) * 2 ^ (12 - n) := by rw [← Nat.pow_add]; congr 1; omega
  rw [e, ← Nat.mul_assoc]
  exact (Nat.mul_lt_mul_right (Nat.two_pow_pos (12 - n))).symm
theorem Til.bad {A : List Wd} {n p x : Nat} (h : Til A n p) (hn : n ≤ 12) (hx : x < 2 ^ n) : (∃ v ∈ A, Bad v (bits n x)) ↔ x * 2 ^ (12 - n) < p := by
  constructor
  · rintro ⟨v, hv, hb⟩
    obtain ⟨m, y, rfl, h1, h2, h3⟩ := h.1 v hv
    exact Nat.lt_of_lt_of_le ((bad_at h1 hn hx h2).1 hb) h3
  · intro hp
    rcases h.2 with h1 | ⟨m, y, h1, h2, h3, h4⟩
    · omega
    · exact ⟨_, h1, (bad_at h2 hn hx h3).2 (by omega)⟩
theorem Til.add {A : List Wd} {n p x : Nat} (h : Til A n p) (hx : x < 2 ^ n) (hp : x * 2 ^ (12 - n) = p) : Til (A ++ [bits n x]) n (p + 2 ^ (12 - n)) := by
  have e : (x + 1) * 2 ^ (12 - n) = p + 2 ^ (12 - n) := by rw [Nat.add_mul, Nat.one_mul, hp]
  refine ⟨fun v hv => ?_, .inr ⟨n, x, List.mem_append_right _ (List.mem_singleton.2 rfl), Nat.le_refl _, hx, e⟩⟩
  rcases List.mem_append.1 hv with hv | hv
  · obtain ⟨m, y, h1, h2, h3, h4⟩ := h.1 v hv
    exact ⟨m, y, h1, h2, h3, Nat.le_trans h4 (Nat.le_add_right _ _)⟩
  · rw [List.mem_singleton.1 hv]
    exact ⟨n, x, rfl, Nat.le_refl _, hx, Nat.le_of_eq e⟩
/-! ### The code that is made of lengths -/
/-- The sum of f below N. -/
def sm (f : Nat → Nat) : Nat → Nat
  | 0 => 0
  | N + 1 => sm f N + f N
theorem sm_add (f g : Nat → Nat) : ∀ N, sm (fun j => f j + g j) N = sm f N + sm g N
  | 0 => rfl
  | N + 1 => by unfold sm; rw [sm_add f g N]; omega
theorem sm_congr {f g : Nat → Nat} : ∀ {N}, (∀ j, j < N → f j = g j) → sm f N = sm g N
  | 0, _ => rfl
  | N + 1, h => by unfold sm; rw [sm_congr (N := N) fun j hj => h j (by omega), h N (by omega)]
theorem sm_mono (f : Nat → Nat) {a b : Nat} (h : a ≤ b) : sm f a ≤ sm f b := by
  induction h with
  | refl => exact Nat.le_refl _
  | step _ ih => exact Nat.le_trans ih (Nat.le_add_right _ _)
theorem sm_dvd {f : Nat → Nat} {d : Nat} : ∀ {N}, (∀ j, j < N → d ∣ f j) → d ∣ sm f N
  | 0, _ => Nat.dvd_zero d
  | N + 1, h => by unfold sm; exact Nat.dvd_add (sm_dvd fun j hj => h j (by omega)) (h N (by omega))
/-- What the lengths below n take; and those of length n, below place i. -/
def lowS (l : Nat → Nat) (N n : Nat) : Nat := sm (fun j => if l j < n then 2 ^ (12 - l j) else 0) N
def eqS (l : Nat → Nat) (n i : Nat) : Nat := sm (fun j => if l j = n then 2 ^ (12 - n) else 0) i
/-- Where the word of place i begins. -/
def cp (l : Nat → Nat) (N n i : Nat) : Nat := lowS l N n + eqS l n i
theorem cp_next (l : Nat → Nat) (N n : Nat) : cp l N n N = cp l N (n + 1) 0 := by
  show lowS l N n + eqS l n N = lowS l N (n + 1) + 0
  unfold lowS eqS
  rw [Nat.add_zero, ← sm_add]
  refine sm_congr fun j _ => ?_
  rcases Nat.lt_trichotomy (l j) n with h | h | h
  · rw [if_pos h, if_neg (by omega), if_pos (by omega)]; omega
  · rw [if_neg (by omega), if_pos h, if_pos (by omega), h]; omega
  · rw [if_neg (by omega), if_neg (by omega), if_neg (by omega)]
theorem cp_yes {l : Nat → Nat} {N n i : Nat} (h : l i = n) : cp l N n (i + 1) = cp l N n i + 2 ^ (12 - n) := by
  show lowS l N n + (eqS l n i + (if l i = n then 2 ^ (12 - n) else 0)) = _
  rw [if_pos h]; unfold cp; omega
theorem cp_no {l : Nat → Nat} {N n i : Nat} (h : l i ≠ n) : cp l N n (i + 1) = cp l N n i := by
  show lowS l N n + (eqS l n i + (if l i = n then 2 ^ (12 - n) else 0)) = _
  rw [if_neg h]; rfl
theorem cp_first {l : Nat → Nat} {N : Nat} (h : ∀ j, j < N → 1 ≤ l j) : cp l N 1 0 = 0 := by
  show lowS l N 1 + 0 = 0
  unfold lowS
  rw [sm_congr (g := fun _ => 0) fun j hj => by rw [if_neg (by have := h j hj; omega)]]
  clear h
  induction N with
  | zero => rfl
  | succ N ih => unfold sm; omega
theorem cp_dvd (l : Nat → Nat) {N n i : Nat} (hn : n ≤ 12) : 2 ^ (12 - n) ∣ cp l N n i := by
  refine Nat.dvd_add (sm_dvd fun j _ => ?_) (sm_dvd fun j _ => ?_)
  · by_cases h : l j < n
    · simp only [if_pos h]
      exact Nat.pow_dvd_pow 2 (by omega)
    · simp only [if_neg h]; exact Nat.dvd_zero _
  · by_cases h : l j = n
    · simp only [if_pos h]; exact Nat.dvd_refl _
    · simp only [if_neg h]; exact Nat.dvd_zero _
theorem cp_mono_i (l : Nat → Nat) {N n i k : Nat} (h : i ≤ k) : cp l N n i ≤ cp l N n k := Nat.add_le_add_left (sm_mono _ h) _
theorem cp_mono_n (l : Nat → Nat) (N : Nat) : ∀ {n n' : Nat}, n ≤ n' → cp l N n 0 ≤ cp l N n' 0 := by
  intro n n' h
  induction h with
  | refl => exact Nat.le_refl _
  | @step m _ ih =>
    have h1 := cp_next l N m
    have h2 := cp_mono_i l (N := N) (n := m) (Nat.zero_le N)
    show cp l N n 0 ≤ cp l N (m + 1) 0
    omega
/-- All of them. -/
def tot (l : Nat → Nat) (N : Nat) : Nat := sm (fun j => 2 ^ (12 - l j)) N
theorem cp_last {l : Nat → Nat} {N : Nat} (h : ∀ j, j < N → l j ≤ 12) : cp l N 13 0 = tot l N := by
  show lowS l N 13 + 0 = tot l N
  rw [Nat.add_zero]
  exact sm_congr fun j hj => by rw [if_pos (by have := h j hj; omega)]
/-- The end of one word is no later than the beginning of a later one. -/
theorem cp_order {l : Nat → Nat} {N i k : Nat} (hi : i < N) (h : l i < l k ∨ (l i = l k ∧ i < k)) : cp l N (l i) i + 2 ^ (12 - l i) ≤ cp l N (l k) k := by
  rw [← cp_yes rfl]
  rcases h with h | ⟨h1, h2⟩
  · have a1 := cp_mono_i l (N := N) (n := l i) (show i + 1 ≤ N by omega)
    have a2 := cp_next l N (l i)
    have a3 := cp_mono_n l N (show l i + 1 ≤ l k by omega)
    have a4 := cp_mono_i l (N := N) (n := l k) (Nat.zero_le k)
    omega
  · rw [h1]; exact cp_mono_i l (by omega)
theorem cp_tot {l : Nat → Nat} {N i : Nat} (hi : i < N) (h : ∀ j, j < N → l j ≤ 12) : cp l N (l i) i + 2 ^ (12 - l i) ≤ tot l N := by
  rw [← cp_yes rfl, ← cp_last h]
  have a1 := cp_mono_i l (N := N) (n := l i) (show i + 1 ≤ N by omega)
  have a2 := cp_next l N (l i)
  have a3 := cp_mono_n l N (show l i + 1 ≤ 13 by have := h i hi; omega)
  omega
/-- The number of the word of place i, and the word. -/
def cx (l : Nat → Nat) (N i : Nat) : Nat := cp l N (l i) i / 2 ^ (12 - l i)
def cw (l : Nat → Nat) (N i : Nat) : Wd := bits (l i) (cx l N i)
theorem cx_mul (l : Nat → Nat) {N i : Nat} (h : l i ≤ 12) : cx l N i * 2 ^ (12 - l i) = cp l N (l i) i := Nat.div_mul_cancel (cp_dvd l h)
theorem pow12 {n : Nat} (h : n ≤ 12) : 2 ^ n * 2 ^ (12 - n) = 4096 := by rw [← Nat.pow_add, Nat.add_sub_cancel' h]
theorem cx_lt {l : Nat → Nat} {N i : Nat} (hi : i < N) (h : ∀ j, j < N → l j ≤ 12) (ht : tot l N ≤ 4096) : cx l N i < 2 ^ l i := by
  have h1 := cx_mul l (N := N) (h i hi)
  have h2 := cp_tot hi h
  have h3 := pow12 (h i hi)
  have h4 := Nat.two_pow_pos (12 - l i)
  refine (Nat.mul_lt_mul_right h4).1 ?_
  omega
theorem cw_after {l : Nat → Nat} {N i k : Nat} (hi : i < N) (hk : k < N) (h : ∀ j, j < N → l j ≤ 12) (ht : tot l N ≤ 4096) (ho : l i < l k ∨ (l i = l k ∧ i < k)) : cw l N i < cw l N k ∧ ¬ cw l N i <+: cw l N k ∧ ¬ cw l N k <+: cw l N i := by
  have hb : ¬ Bad (cw l N i) (cw l N k) := by
    unfold cw
    rw [bad_at (by omega) (h k hk) (cx_lt hk h ht) (cx_lt hi h ht), cx_mul l (h k hk), Nat.add_mul, cx_mul l (h i hi)]
    have := cp_order hi ho
    omega
  unfold Bad at hb
  have h1 : cw l N i < cw l N k := by
    by_cases hx : cw l N i < cw l N k
    · exact hx
    · exact absurd (.inl hx) hb
  have h2 : ¬ cw l N i <+: cw l N k := fun hx => hb (.inr hx)
  refine ⟨h1, h2, fun hx => ?_⟩
  have hl := hx.length_le
  unfold cw at hl
  rw [bits_len, bits_len] at hl
  have he := hx.eq_of_length (by unfold cw; rw [bits_len, bits_len]; omega)
  rw [he] at h2
  exact h2 (List.prefix_refl _)
theorem cw_apart {l : Nat → Nat} {N i k : Nat} (hi : i < N) (hk : k < N) (h : ∀ j, j < N → l j ≤ 12) (ht : tot l N ≤ 4096) (hne : i ≠ k) : ¬ cw l N i <+: cw l N k := by
  rcases Nat.lt_trichotomy (l i) (l k) with h1 | h1 | h1
  · exact (cw_after hi hk h ht (.inl h1)).2.1
  · rcases Nat.lt_or_gt_of_ne hne with h2 | h2
    · exact (cw_after hi hk h ht (.inr ⟨h1, h2⟩)).2.1
    · exact (cw_after hk hi h ht (.inr ⟨h1.symm, h2⟩)).2.2
  · exact (cw_after hk hi h ht (.inl h1)).2.2
/-! ### Words in order -/
/-- In order, each word once: none begins another one just if none begins the next. -/
theorem pf_next {D : List Wd} (hs : D.Pairwise (· < ·)) : PF D ↔ ∀ i, i + 1 < D.length → ¬ D.getD i [] <+: D.getD (i + 1) [] := by
  have hp := List.pairwise_iff_getElem.1 hs
  have hg : ∀ i (h : i < D.length), D.getD i [] = D[i] := fun i h => by rw [List.getD_eq_getElem?_getD, List.getElem?_eq_getElem h]; rfl
  constructor
  · intro h i hi hx
    have e := h _ (by rw [hg i (by omega)]; exact List.getElem_mem _) _ (by rw [hg (i + 1) hi]; exact List.getElem_mem _) hx
    have h1 := hp i (i + 1) (by omega) hi (by omega)
    rw [hg i (by omega), hg (i + 1) hi] at e
    rw [e] at h1
    exact Lm.irr _ h1
  · intro h w hw v hv hx
    obtain ⟨p, hp1, rfl⟩ := List.getElem_of_mem hw
    obtain ⟨q, hq1, rfl⟩ := List.getElem_of_mem hv
    by_cases hpq : p = q
    · subst hpq; rfl
    · exfalso
      have hlt : p < q := by
        rcases Nat.lt_or_gt_of_ne hpq with h1 | h1
        · exact h1
        · have h2 := hp q p hq1 hp1 h1
          exact absurd h2 (List.not_lt.2 (List.IsPrefix.le hx))
      refine h p (by omega) ?_
      rw [hg p hp1, hg (p + 1) (by omega)]
      refine Sm.sandwich hx (fun h1 => ?_) (fun h1 => ?_)
      · exact Lm.irr _ (List.lt_trans h1 (hp p (p + 1) hp1 (by omega) (by omega)))
      · rcases Nat.lt_or_ge (p + 1) q with h2 | h2
        · exact Lm.irr _ (List.lt_trans h1 (hp (p + 1) q (by omega) hq1 h2))
        · obtain rfl : q = p + 1 := by omega
          exact Lm.irr _ h1
/-! ### The search -/
/-- What is over may be o' behind o. -/
def Stp (W : List Wd) (o o' : Wd) : Prop := ∃ w ∈ W, w = o ++ o' ∨ o = w ++ o'
theorem Tw.of_step {W : List Wd} {o o' : Wd} (h : Stp W o o') (h2 : Tw W o') : Tw W o := by
  obtain ⟨w, hw, h | h⟩ := h
  · exact .fwd hw h h2
  · exact .bwd hw h h2
/-- From a set that is left nowhere, and in which no word is empty, nothing is made even. -/
theorem no_tw {W : List Wd} {S : Wd → Prop} (h0 : ¬ S []) (hc : ∀ o o', S o → Stp W o o' → S o') {o : Wd} (ho : S o) : ¬ Tw W o := by
  intro h
  induction h with
  | nil => exact h0 ho
  | @fwd o o' w h1 h2 _ ih => exact ih (hc o o' ho ⟨w, h1, .inl h2⟩)
  | @bwd o o' w h1 h2 _ ih => exact ih (hc o o' ho ⟨w, h1, .inr h2⟩)
/-- An end of a word. -/
def End (W : List Wd) (o : Wd) : Prop := ∃ w ∈ W, o <:+ w
theorem End.step {W : List Wd} {o o' : Wd} (h : End W o) (hs : Stp W o o') : End W o' := by
  obtain ⟨w, hw, h1 | h1⟩ := hs
  · exact ⟨w, hw, o, h1.symm⟩
  · obtain ⟨v, hv, u, hu⟩ := h
    exact ⟨v, hv, u ++ w, by rw [List.append_assoc, ← h1, hu]⟩
/-- All ends. -/
def ends (W : List Wd) : List Wd := W.flatMap fun w => (List.range (w.length + 1)).map fun k => w.drop k
theorem mem_ends {W : List Wd} {o : Wd} : o ∈ ends W ↔ End W o := by
  unfold ends End
  rw [List.mem_flatMap]
  constructor
  · rintro ⟨w, hw, h⟩
    obtain ⟨k, _, rfl⟩ := List.mem_map.1 h
    exact ⟨w, hw, List.drop_suffix k w⟩
  · rintro ⟨w, hw, u, hu⟩
    refine ⟨w, hw, List.mem_map.2 ⟨u.length, List.mem_range.2 ?_, ?_⟩⟩
    · rw [← hu, List.length_append]; omega
    · rw [← hu, List.drop_left]
theorem ends_len {W : List Wd} (hl : ∀ w ∈ W, w.length ≤ 12) : (ends W).length ≤ 13 * W.length := by
  unfold ends
  induction W with
  | nil => simp
  | cons w W ih =>
    have h1 := ih fun v hv => hl v (List.mem_cons_of_mem _ hv)
    have h2 := hl w List.mem_cons_self
    simp only [List.flatMap_cons, List.length_append, List.length_map, List.length_range, List.length_cons]
    omega
/-- How many ends are not in S. -/
def left (W S : List Wd) : Nat := ((ends W).filter fun o => !S.contains o).length
theorem left_add {W S : List Wd} {o : Wd} (h : End W o) (hn : o ∉ S) : left W (o :: S) < left W S := by
  unfold left
  have key : ∀ E : List Wd, (E.filter fun x => !(o :: S).contains x).length ≤ (E.filter fun x => !S.contains x).length ∧ (o ∈ E → (E.filter fun x => !(o :: S).contains x).length < (E.filter fun x => !S.contains x).length) := by
    intro E
    induction E with
    | nil => exact ⟨Nat.le_refl _, fun h => by cases h⟩
    | cons a E ih =>
      by_cases ha : a = o
      · subst ha
        have h1 : (!(a :: S).contains a) = false := by simp
        have h2 : (!S.contains a) = true := by simpa using hn
        rw [List.filter_cons_of_neg (by simp), List.filter_cons_of_pos (by simpa using hn), List.length_cons]
        exact ⟨by omega, fun _ => by omega⟩
      · by_cases hs : a ∈ S
        · rw [List.filter_cons_of_neg (by simp [hs]), List.filter_cons_of_neg (by simp [hs])]
          refine ⟨ih.1, fun h => ih.2 ?_⟩
          rcases List.mem_cons.1 h with h | h
          · exact absurd h.symm ha
          · exact h
        · rw [List.filter_cons_of_pos (by simp [hs, ha]), List.filter_cons_of_pos (by simp [hs]), List.length_cons, List.length_cons]
          refine ⟨by omega, fun h => ?_⟩
          rcases List.mem_cons.1 h with h | h
          · exact absurd h.symm ha
          · have := ih.2 h; omega
  exact (key (ends W)).2 (mem_ends.2 h)
end Cm
end Go.Proofs.Ytmgkoliindicgaa
