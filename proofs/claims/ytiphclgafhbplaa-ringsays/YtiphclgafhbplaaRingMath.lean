/-
Plain mathematics for package ring: which numbers of letters and of places are let through; how many words of each length repeat no shorter one.
-/
namespace Go.Proofs.Ytiphclgafhbplaa.Rm
/-- So many letters and places are let through. -/
structure Ok (k n : Nat) : Prop where
  k1 : 1 ≤ k
  k8 : k ≤ 8
  n1 : 1 ≤ n
  n5 : n ≤ 512
  few : k ^ n ≤ 512
theorem pow_mono {k i n : Nat} (hk : 1 ≤ k) (h : i ≤ n) : k ^ i ≤ k ^ n := Nat.pow_le_pow_right hk h
theorem Ok.less {k n d : Nat} (h : Ok k n) (h1 : 1 ≤ d) (hd : d ≤ n) : Ok k d := ⟨h.k1, h.k8, h1, by have := h.n5; omega, Nat.le_trans (pow_mono h.k1 hd) h.few⟩
theorem Ok.short {k n : Nat} (h : Ok k n) : k = 1 ∨ n ≤ 9 := by
  by_cases hk : k = 1
  · exact .inl hk
  · right
    have h1 := h.k1
    have h2 : 2 ^ n ≤ k ^ n := Nat.pow_le_pow_left (by omega) n
    have h3 := h.few
    by_cases hn : n ≤ 9
    · exact hn
    · have h4 : 2 ^ 10 ≤ 2 ^ n := pow_mono (by omega) (by omega)
      omega
/-- f 0 + .. + f (m - 1). -/
def sm (f : Nat → Int) : Nat → Int
  | 0 => 0
  | m + 1 => sm f m + f m
theorem sm_congr {f g : Nat → Int} : ∀ {m : Nat}, (∀ i, i < m → f i = g i) → sm f m = sm g m
  | 0, _ => rfl
  | m + 1, h => by rw [sm, sm, sm_congr fun i hi => h i (by omega), h m (by omega)]
theorem sm_bound {f : Nat → Int} {c : Int} (hc : 0 ≤ c) : ∀ {m : Nat}, (∀ i, i < m → 0 ≤ f i ∧ f i ≤ c) → 0 ≤ sm f m ∧ sm f m ≤ c * m
  | 0, _ => by simp [sm]
  | m + 1, h => by
    have h1 := sm_bound hc (m := m) fun i hi => h i (by omega)
    have h2 := h m (by omega)
    rw [sm]
    have e : c * ((m + 1 : Nat) : Int) = c * (m : Int) + c := by rw [Int.natCast_add, Int.mul_add]; simp
    omega
theorem sm_zero {f : Nat → Int} : ∀ {m : Nat}, (∀ i, i < m → f i = 0) → sm f m = 0
  | 0, _ => rfl
  | m + 1, h => by rw [sm, sm_zero fun i hi => h i (by omega), h m (by omega)]; rfl
theorem sm_more {f : Nat → Int} {m : Nat} : ∀ {q : Nat}, (∀ i, m ≤ i → i < m + q → f i = 0) → sm f (m + q) = sm f m
  | 0, _ => rfl
  | q + 1, h => by rw [← Nat.add_assoc, sm, sm_more fun i h1 h2 => h i h1 (by omega), h (m + q) (by omega) (by omega)]; omega
/-- How many words of each length up to n are no repetition. -/
def pl (k : Nat) : Nat → List Int
  | 0 => [0]
  | n + 1 => pl k n ++ [((k ^ (n + 1) : Nat) : Int) - sm (fun e => if (n + 1) % e = 0 then (pl k n).getD e 0 else 0) (n + 1)]
theorem pl_len (k : Nat) : ∀ n, (pl k n).length = n + 1
  | 0 => rfl
  | n + 1 => by rw [pl, List.length_append, pl_len k n]; rfl
def pc (k d : Nat) : Int := (pl k d).getD d 0
theorem pl_get (k : Nat) : ∀ {n d : Nat}, d ≤ n → (pl k n).getD d 0 = pc k d
  | 0, d, h => by obtain rfl : d = 0 := by omega
                  rfl
  | n + 1, d, h => by
    by_cases hd : d = n + 1
    · subst hd; rfl
    · rw [pl, List.getD_eq_getElem?_getD, List.getElem?_append_left (by rw [pl_len]; omega), ← List.getD_eq_getElem?_getD]
      exact pl_get k (by omega)
theorem pc_zero (k : Nat) : pc k 0 = 0 := rfl
theorem pc_succ (k n : Nat) : pc k (n + 1) = ((k ^ (n + 1) : Nat) : Int) - sm (fun e => if (n + 1) % e = 0 then pc k e else 0) (n + 1) := by
  have h : (pl k (n + 1)).getD (n + 1) 0 = ((k ^ (n + 1) : Nat) : Int) - sm (fun e => if (n + 1) % e = 0 then (pl k n).getD e 0 else 0) (n + 1) := by
    rw [pl, List.getD_eq_getElem?_getD, List.getElem?_append_right (by rw [pl_len]; omega), pl_len]
    simp
  rw [pc, h]
  rw [sm_congr fun e he => by rw [pl_get k (show e ≤ n by omega)]]
theorem pc_pos {k m : Nat} (h : 0 < m) : pc k m = ((k ^ m : Nat) : Int) - sm (fun e => if m % e = 0 then pc k e else 0) m := by
  cases m with
  | zero => omega
  | succ n => exact pc_succ k n
theorem pc_one_one : pc 1 1 = 1 := by decide
theorem pc_one : ∀ (m : Nat), pc 1 m = if m = 1 then 1 else 0 := by
  intro m
  induction m using Nat.strongRecOn with
  | ind m ih =>
    match m with
    | 0 => rfl
    | 1 => exact pc_one_one
    | n + 2 =>
      rw [pc_succ, if_neg (by omega), Nat.one_pow]
      have e : sm (fun e => if (n + 1 + 1) % e = 0 then pc 1 e else 0) (2 + n) = sm (fun e => if (n + 1 + 1) % e = 0 then pc 1 e else 0) 2 := by
        refine sm_more fun i h1 h2 => ?_
        have := ih i (by omega)
        rw [if_neg (by omega)] at this
        simp only [this]
        simp
      rw [show n + 1 + 1 = 2 + n by omega] at e ⊢
      rw [e]
      simp [sm, pc_one_one, Nat.mod_one]
theorem pc_few : ∀ k, k < 9 → ∀ m, m < 10 → k ^ m ≤ 512 → 1 ≤ k → (0 ≤ pc k m ∧ pc k m ≤ 512 ∧ pc k m % (m : Int) = 0) := by decide +kernel
theorem pc_all {k n m : Nat} (h : Ok k n) (hm : m ≤ n) : 0 ≤ pc k m ∧ pc k m ≤ 512 ∧ pc k m % (m : Int) = 0 := by
  rcases h.short with rfl | h9
  · rw [pc_one]
    by_cases h1 : m = 1
    · subst h1; decide
    · rw [if_neg h1]; simp
  · exact pc_few k (by have := h.k8; omega) m (by omega) (Nat.le_trans (pow_mono h.k1 hm) h.few) h.k1

/-- What place m of the sieve holds when it comes to 'size'. -/
def st (k size m : Nat) : Int := (if 0 < m ∧ m < size then ((k ^ m : Nat) : Int) else 0) - sm (fun e => if e < m ∧ m % e = 0 then pc k e else 0) size
theorem st_done {k size m : Nat} (h : m < size) : st k size m = pc k m := by
  unfold st
  have e : sm (fun e => if e < m ∧ m % e = 0 then pc k e else 0) (m + (size - m)) = sm (fun e => if e < m ∧ m % e = 0 then pc k e else 0) m := by
    refine sm_more fun i h1 h2 => ?_
    rw [if_neg (by omega)]
  rw [show m + (size - m) = size by omega] at e
  rw [e, sm_congr (g := fun e => if m % e = 0 then pc k e else 0) fun i hi => by simp only [hi, true_and]]
  by_cases h0 : 0 < m
  · rw [if_pos ⟨h0, h⟩, pc_pos h0]
  · obtain rfl : m = 0 := by omega
    rfl
theorem st_self {k size : Nat} (h0 : 0 < size) : st k size size + ((k ^ size : Nat) : Int) = pc k size := by
  unfold st
  rw [if_neg (by omega), pc_pos h0, sm_congr (g := fun e => if size % e = 0 then pc k e else 0) fun i hi => by simp only [hi, true_and]]
  omega
theorem st_start (k m : Nat) : st k 1 m = 0 := by
  unfold st
  rw [if_neg (by omega)]
  simp [sm, pc_zero]
/-- .. and when, at 'size', it is at 'longer' = l. -/
def im (k size l m : Nat) : Int := st k size m + (if m = size then ((k ^ size : Nat) : Int) else 0) - (if m % size = 0 ∧ size < m ∧ m < l then pc k size else 0)
theorem im_start {k size m : Nat} : im k size (2 * size) m = if m = size then st k size size + ((k ^ size : Nat) : Int) else st k size m := by
  unfold im
  rw [if_neg (c := m % size = 0 ∧ size < m ∧ m < 2 * size)]
  · by_cases h : m = size
    · subst h; rw [if_pos rfl, if_pos rfl]; omega
    · rw [if_neg h, if_neg h]; omega
  · rintro ⟨h1, h2, h3⟩
    obtain ⟨q, hq⟩ := Nat.dvd_of_mod_eq_zero h1
    match q with
    | 0 => omega
    | 1 => omega
    | q + 2 =>
      have : size * (q + 2) = size * q + 2 * size := by rw [Nat.mul_add]; omega
      omega
theorem im_end {k size l m n : Nat} (h0 : 0 < size) (hl : n < l) (hm : m ≤ n) : im k size l m = st k (size + 1) m := by
  unfold im st
  rw [sm]
  by_cases h : m = size
  · subst h
    rw [if_neg (by omega), if_pos rfl, if_neg (by omega), if_pos ⟨h0, by omega⟩, if_neg (by omega)]
    omega
  · rw [if_neg h]
    have e : (if m % size = 0 ∧ size < m ∧ m < l then pc k size else 0) = (if size < m ∧ m % size = 0 then pc k size else 0) := by
      by_cases hx : size < m ∧ m % size = 0
      · rw [if_pos hx, if_pos ⟨hx.2, hx.1, by omega⟩]
      · rw [if_neg hx, if_neg (by intro hc; exact hx ⟨hc.2.1, hc.1⟩)]
    have e2 : (if 0 < m ∧ m < size then ((k ^ m : Nat) : Int) else 0) = (if 0 < m ∧ m < size + 1 then ((k ^ m : Nat) : Int) else 0) := by
      by_cases hx : 0 < m ∧ m < size
      · rw [if_pos hx, if_pos (by omega)]
      · rw [if_neg hx, if_neg (by omega)]
    rw [e, e2]
    omega
theorem mult_step {size l m : Nat} (hl : l % size = 0) (hm : m % size = 0) (h : l < m) : l + size ≤ m := by
  obtain ⟨a, rfl⟩ := Nat.dvd_of_mod_eq_zero hl
  obtain ⟨b, rfl⟩ := Nat.dvd_of_mod_eq_zero hm
  have : a < b := Nat.lt_of_mul_lt_mul_left h
  have h2 : size * (a + 1) ≤ size * b := Nat.mul_le_mul_left _ this
  rw [Nat.mul_add] at h2
  omega
theorem im_step {k size l m : Nat} (hd : l % size = 0) (hl : size < l) : im k size (l + size) m = if m = l then im k size l l - pc k size else im k size l m := by
  unfold im
  by_cases h : m = l
  · subst h
    rw [if_pos rfl, if_neg (c := m % size = 0 ∧ size < m ∧ m < m) (by omega)]
    by_cases h0 : 0 < size
    · rw [if_pos (c := m % size = 0 ∧ size < m ∧ m < m + size) ⟨hd, hl, by omega⟩]; omega
    · obtain rfl : size = 0 := by omega
      rw [if_neg (by omega)]
      simp [pc_zero]
  · rw [if_neg h]
    have e : (m % size = 0 ∧ size < m ∧ m < l + size) ↔ (m % size = 0 ∧ size < m ∧ m < l) := by
      constructor
      · rintro ⟨h1, h2, h3⟩
        refine ⟨h1, h2, ?_⟩
        rcases Nat.lt_trichotomy m l with hx | hx | hx
        · exact hx
        · exact absurd hx h
        · have := mult_step hd h1 hx
          omega
      · rintro ⟨h1, h2, h3⟩
        exact ⟨h1, h2, by omega⟩
    simp only [e]
theorem im_self {k size l : Nat} (h0 : 0 < size) : im k size l size = pc k size := by
  unfold im
  rw [if_pos rfl, if_neg (by omega), st_self h0]
  omega
theorem st_bound {k n size m : Nat} (h : Ok k n) (hs : size ≤ n + 1) (hm : m ≤ n) : -262656 ≤ st k size m ∧ st k size m ≤ 512 := by
  unfold st
  have hb := sm_bound (f := fun e => if e < m ∧ m % e = 0 then pc k e else 0) (c := 512) (by omega) (m := size) fun i hi => by
    by_cases hx : i < m ∧ m % i = 0
    · simp only [if_pos hx]
      have := pc_all h (m := i) (by omega)
      omega
    · simp only [if_neg hx]; omega
  have h1 : k ^ m ≤ 512 := Nat.le_trans (pow_mono h.k1 hm) h.few
  have := h.n5
  have h2 : (size : Int) ≤ 513 := by omega
  by_cases hx : 0 < m ∧ m < size
  · rw [if_pos hx]; omega
  · rw [if_neg hx]; omega
theorem im_bound {k n size l m : Nat} (h : Ok k n) (hs : size ≤ n) (hm : m ≤ n) : -263168 ≤ im k size l m ∧ im k size l m ≤ 1024 := by
  unfold im
  have h1 := st_bound h (size := size) (by omega) hm
  have h2 : k ^ size ≤ 512 := Nat.le_trans (pow_mono h.k1 hs) h.few
  have h3 := pc_all h hs
  split <;> split <;> omega
/-- How many Lyndon words of length m there are. -/
def lw (k m : Nat) : Int := pc k m / (m : Int)
/-- What place m holds when the division is at 'size'. -/
def dv (k size m : Nat) : Int := if m < size then lw k m else pc k m
theorem lw_zero (k : Nat) : lw k 0 = 0 := by unfold lw; simp
theorem dv_start (k m : Nat) : dv k 1 m = pc k m := by
  unfold dv
  by_cases h : m < 1
  · obtain rfl : m = 0 := by omega
    rw [if_pos h, lw_zero, pc_zero]
  · rw [if_neg h]
theorem dv_self (k m : Nat) : dv k m m = pc k m := by unfold dv; rw [if_neg (by omega)]
theorem dv_step {k size m : Nat} : dv k (size + 1) m = if m = size then lw k size else dv k size m := by
  unfold dv
  by_cases h : m = size
  · subst h; rw [if_pos (by omega), if_pos rfl]
  · rw [if_neg h]
    by_cases h2 : m < size
    · rw [if_pos h2, if_pos (by omega)]
    · rw [if_neg h2, if_neg (by omega)]
theorem dv_end {k n m : Nat} (h : m ≤ n) : dv k (n + 1) m = lw k m := by unfold dv; rw [if_pos (by omega)]
theorem lw_bound {k n m : Nat} (h : Ok k n) (hm : m ≤ n) : 0 ≤ lw k m ∧ lw k m ≤ 512 := by
  have h1 := pc_all h hm
  unfold lw
  by_cases h0 : m = 0
  · subst h0; simp
  · refine ⟨Int.ediv_nonneg h1.1 (by omega), ?_⟩
    have := Int.ediv_le_self (m : Int) h1.1
    omega
theorem lw_mul {k n m : Nat} (h : Ok k n) (hm : m ≤ n) : (m : Int) * lw k m = pc k m := by
  have h1 := (pc_all h hm).2.2
  unfold lw
  exact Int.mul_ediv_cancel' (Int.dvd_of_emod_eq_zero h1)
/-- How many Lyndon words there are of the lengths below m that divide n. -/
def rg (k n m : Nat) : Int := sm (fun d => if n % d = 0 then lw k d else 0) m
theorem rg_bound {k n m : Nat} (h : Ok k n) (hm : m ≤ n + 1) : 0 ≤ rg k n m ∧ rg k n m ≤ 262656 := by
  have hb := sm_bound (f := fun d => if n % d = 0 then lw k d else 0) (c := 512) (by omega) (m := m) fun i hi => by
    have := lw_bound h (m := i) (by omega)
    by_cases hx : n % i = 0
    · simp only [if_pos hx]; exact this
    · simp only [if_neg hx]; omega
  have := h.n5
  unfold rg
  omega
theorem rg_step (k n m : Nat) : rg k n (m + 1) = if n % m = 0 then rg k n m + lw k m else rg k n m := by
  unfold rg
  rw [sm]
  by_cases hx : n % m = 0
  · rw [if_pos hx, if_pos hx]
  · rw [if_neg hx, if_neg hx]; omega
theorem rg_one (k n : Nat) : rg k n 1 = 0 := by unfold rg; simp [sm, lw_zero]
theorem rg_zero (k n : Nat) : rg k n 0 = 0 := rfl
/-- Witt: the same sum, each as often as its length. -/
def wt (k n m : Nat) : Int := sm (fun d => if n % d = 0 then (d : Int) * lw k d else 0) m
theorem wt_step (k n m : Nat) : wt k n (m + 1) = if n % m = 0 then wt k n m + (m : Int) * lw k m else wt k n m := by
  unfold wt
  rw [sm]
  by_cases hx : n % m = 0
  · rw [if_pos hx, if_pos hx]
  · rw [if_neg hx, if_neg hx]; omega
theorem wt_one (k n : Nat) : wt k n 1 = 0 := by unfold wt; simp [sm]
theorem wt_pc {k n : Nat} (h : Ok k n) {m : Nat} (hm : m ≤ n + 1) : wt k n m = sm (fun d => if n % d = 0 then pc k d else 0) m := by
  unfold wt
  refine sm_congr fun i hi => ?_
  by_cases hx : n % i = 0
  · rw [if_pos hx, if_pos hx, lw_mul h (by omega)]
  · rw [if_neg hx, if_neg hx]
theorem wt_end {k n : Nat} (h : Ok k n) : wt k n (n + 1) = ((k ^ n : Nat) : Int) := by
  rw [wt_pc h (by omega), sm, if_pos (Nat.mod_self n), pc_pos h.n1]
  omega
theorem wt_bound {k n m : Nat} (h : Ok k n) (hm : m ≤ n + 1) : 0 ≤ wt k n m ∧ wt k n m ≤ 262656 := by
  rw [wt_pc h hm]
  have hb := sm_bound (f := fun d => if n % d = 0 then pc k d else 0) (c := 512) (by omega) (m := m) fun i hi => by
    have := pc_all h (m := i) (by omega)
    by_cases hx : n % i = 0
    · simp only [if_pos hx]; omega
    · simp only [if_neg hx]; omega
  have := h.n5
  omega
end Go.Proofs.Ytiphclgafhbplaa.Rm
