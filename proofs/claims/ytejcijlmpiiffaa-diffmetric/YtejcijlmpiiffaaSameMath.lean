
/-
Longest common subsequences of two lists of bytes: how long they are (lc), what is known of that number, and the greedy search for a subsequence. No program is named here.
-/
namespace Go.Proofs.Ytejcijlmpiiffaa.Sa

/-- A row of lc: what a word that begins with x has in common with b. -/
def lcRow (x : UInt8) (f : List UInt8 → Nat) : List UInt8 → Nat
  | [] => 0
  | y :: b => if x = y then f b + 1 else max (f (y :: b)) (lcRow x f b)
/-- How long the longest common subsequences of two words are. -/
def lc : List UInt8 → List UInt8 → Nat
  | [], _ => 0
  | x :: a, b => lcRow x (lc a) b

theorem lc_nil (b : List UInt8) : lc [] b = 0 := rfl
theorem lc_nil' (a : List UInt8) : lc a [] = 0 := by cases a <;> rfl
theorem lc_cons (x y : UInt8) (a b : List UInt8) : lc (x :: a) (y :: b) = if x = y then lc a b + 1 else max (lc a (y :: b)) (lc (x :: a) b) := rfl

theorem lc_ub : ∀ (a b c : List UInt8), List.Sublist c a → List.Sublist c b → c.length ≤ lc a b
  | [], b, c, h, _ => by rw [List.sublist_nil.1 h]; exact Nat.zero_le _
  | x :: a, [], c, _, h => by rw [List.sublist_nil.1 h]; exact Nat.zero_le _
  | x :: a, y :: b, c, h, k => by
    rw [lc_cons]
    by_cases e : x = y
    · rw [if_pos e]
      have h1 := lc_ub a b c.tail h.tail k.tail
      have h2 : c.length ≤ c.tail.length + 1 := by cases c <;> simp
      omega
    · rw [if_neg e]
      cases h with
      | cons _ h1 =>
        have := lc_ub a (y :: b) c h1 k
        omega
      | cons_cons _ h1 =>
        cases k with
        | cons _ k1 =>
          rename_i l
          have := lc_ub (x :: a) b (x :: l) (h1.cons_cons x) k1
          omega
        | cons_cons _ k1 => exact absurd rfl e
  termination_by a b => a.length + b.length

theorem lc_ex : ∀ (a b : List UInt8), ∃ c, List.Sublist c a ∧ List.Sublist c b ∧ c.length = lc a b
  | [], b => ⟨[], List.nil_sublist _, List.nil_sublist _, rfl⟩
  | x :: a, [] => ⟨[], List.nil_sublist _, List.nil_sublist _, rfl⟩
  | x :: a, y :: b => by
    rw [lc_cons]
    by_cases e : x = y
    · rw [if_pos e]
      subst e
      obtain ⟨c, h1, h2, h3⟩ := lc_ex a b
      exact ⟨x :: c, h1.cons_cons x, h2.cons_cons x, by rw [List.length_cons, h3]⟩
    · rw [if_neg e]
      by_cases hm : lc a (y :: b) ≤ lc (x :: a) b
      · obtain ⟨c, h1, h2, h3⟩ := lc_ex (x :: a) b
        exact ⟨c, h1, h2.cons y, by rw [h3]; omega⟩
      · obtain ⟨c, h1, h2, h3⟩ := lc_ex a (y :: b)
        exact ⟨c, h1.cons x, h2, by rw [h3]; omega⟩
  termination_by a b => a.length + b.length

theorem lc_comm_le (a b : List UInt8) : lc a b ≤ lc b a := by
  obtain ⟨c, h1, h2, h3⟩ := lc_ex a b
  rw [← h3]
  exact lc_ub b a c h2 h1
theorem lc_comm (a b : List UInt8) : lc a b = lc b a := Nat.le_antisymm (lc_comm_le a b) (lc_comm_le b a)
theorem lc_rev_le (a b : List UInt8) : lc a b ≤ lc a.reverse b.reverse := by
  obtain ⟨c, h1, h2, h3⟩ := lc_ex a b
  have := lc_ub _ _ _ (List.reverse_sublist.2 h1) (List.reverse_sublist.2 h2)
  rw [List.length_reverse] at this
  omega
theorem lc_rev (a b : List UInt8) : lc a.reverse b.reverse = lc a b := by
  refine Nat.le_antisymm ?_ (lc_rev_le a b)
  have := lc_rev_le a.reverse b.reverse
  rwa [List.reverse_reverse, List.reverse_reverse] at this
theorem lc_left (a b : List UInt8) : lc a b ≤ a.length := by
  obtain ⟨c, h1, _, h3⟩ := lc_ex a b
  rw [← h3]
  exact h1.length_le
theorem lc_right (a b : List UInt8) : lc a b ≤ b.length := by rw [lc_comm]; exact lc_left b a
theorem lc_full {a b : List UInt8} : lc a b = a.length ↔ List.Sublist a b := by
  constructor
  · intro h
    obtain ⟨c, h1, h2, h3⟩ := lc_ex a b
    have : c = a := h1.eq_of_length (by rw [h3, h])
    rwa [this] at h2
  · intro h
    exact Nat.le_antisymm (lc_left a b) (lc_ub a b a (List.Sublist.refl a) h)
theorem lc_join (a b c d : List UInt8) : lc a b + lc c d ≤ lc (a ++ c) (b ++ d) := by
  obtain ⟨u, h1, h2, h3⟩ := lc_ex a b
  obtain ⟨v, k1, k2, k3⟩ := lc_ex c d
  have := lc_ub (a ++ c) (b ++ d) (u ++ v) (h1.append k1) (h2.append k2)
  rw [List.length_append] at this
  omega
theorem lc_more (a b : List UInt8) (x : UInt8) : lc a b ≤ lc (a ++ [x]) b ∧ lc (a ++ [x]) b ≤ lc a b + 1 := by
  constructor
  · obtain ⟨c, h1, h2, h3⟩ := lc_ex a b
    rw [← h3]
    exact lc_ub _ _ c (h1.trans (List.sublist_append_left _ _)) h2
  · obtain ⟨c, h1, h2, h3⟩ := lc_ex (a ++ [x]) b
    obtain ⟨c1, c2, rfl, k1, k2⟩ := List.sublist_append_iff.1 h1
    have h4 := lc_ub a b c1 k1 ((List.sublist_append_left c1 c2).trans h2)
    have h5 := k2.length_le
    rw [List.length_append] at h3
    simp only [List.length_cons, List.length_nil] at h5
    omega
theorem lc_both (a b : List UInt8) (x : UInt8) : lc (a ++ [x]) (b ++ [x]) = lc a b + 1 := by
  rw [← lc_rev (a ++ [x]), List.reverse_append, List.reverse_append]
  show lc (x :: a.reverse) (x :: b.reverse) = _
  rw [lc_cons, if_pos rfl, lc_rev]
theorem lc_unlike (a b : List UInt8) {x y : UInt8} (h : x ≠ y) : lc (a ++ [x]) (b ++ [y]) = max (lc a (b ++ [y])) (lc (a ++ [x]) b) := by
  rw [← lc_rev (a ++ [x]), List.reverse_append, List.reverse_append]
  show lc (x :: a.reverse) (y :: b.reverse) = _
  rw [lc_cons, if_neg h, ← lc_rev a (b ++ [y]), ← lc_rev (a ++ [x]) b, List.reverse_append, List.reverse_append]
  rfl

/-- What is left of both words from i and j on. -/
def rest (a b : List UInt8) (i j : Nat) : Nat := lc (a.drop i) (b.drop j)
theorem rest_zero (a b : List UInt8) : rest a b 0 0 = lc a b := rfl
theorem rest_end {a b : List UInt8} {i j : Nat} (h : a.length ≤ i ∨ b.length ≤ j) : rest a b i j = 0 := by
  unfold rest
  rcases h with h | h
  · rw [List.drop_eq_nil_of_le h]; rfl
  · rw [List.drop_eq_nil_of_le h]; exact lc_nil' _
theorem drop_at {a : List UInt8} {i : Nat} (h : i < a.length) : a.drop i = a.getD i 0 :: a.drop (i + 1) := by
  rw [List.drop_eq_getElem_cons h, List.getD_eq_getElem?_getD, List.getElem?_eq_getElem h]; rfl
theorem rest_same {a b : List UInt8} {i j : Nat} (hi : i < a.length) (hj : j < b.length) (h : a.getD i 0 = b.getD j 0) : rest a b i j = rest a b (i + 1) (j + 1) + 1 := by
  unfold rest
  rw [drop_at hi, drop_at hj, lc_cons, if_pos h]
theorem rest_unlike {a b : List UInt8} {i j : Nat} (hi : i < a.length) (hj : j < b.length) (h : a.getD i 0 ≠ b.getD j 0) : rest a b i j = max (rest a b (i + 1) j) (rest a b i (j + 1)) := by
  unfold rest
  rw [drop_at hi, drop_at hj, lc_cons, if_neg h]
theorem rest_pos {a b : List UInt8} {i j : Nat} (h : 0 < rest a b i j) : i < a.length ∧ j < b.length := by
  refine ⟨Nat.lt_of_not_le fun k => ?_, Nat.lt_of_not_le fun k => ?_⟩
  · rw [rest_end (.inl k)] at h; omega
  · rw [rest_end (.inr k)] at h; omega
theorem rest_le (a b : List UInt8) (i j : Nat) : rest a b i j ≤ a.length := by
  unfold rest
  have := lc_left (a.drop i) (b.drop j)
  rw [List.length_drop] at this
  omega

/-- What the first i and k bytes have in common. -/
def fore (a b : List UInt8) (i k : Nat) : Nat := lc (a.take i) (b.take k)
theorem fore_none {a b : List UInt8} {i k : Nat} (h : i = 0 ∨ k = 0) : fore a b i k = 0 := by
  unfold fore
  rcases h with rfl | rfl
  · rfl
  · exact lc_nil' _
theorem fore_all (a b : List UInt8) : fore a b a.length b.length = lc a b := by unfold fore; rw [List.take_length, List.take_length]
theorem take_at {a : List UInt8} {i : Nat} (h : i < a.length) : a.take (i + 1) = a.take i ++ [a.getD i 0] := by
  rw [List.take_add_one, List.getD_eq_getElem?_getD, List.getElem?_eq_getElem h]; rfl
theorem fore_same {a b : List UInt8} {i k : Nat} (hi : i < a.length) (hk : k < b.length) (h : a.getD i 0 = b.getD k 0) : fore a b (i + 1) (k + 1) = fore a b i k + 1 := by
  unfold fore
  rw [take_at hi, take_at hk, h, lc_both]
theorem fore_unlike {a b : List UInt8} {i k : Nat} (hi : i < a.length) (hk : k < b.length) (h : a.getD i 0 ≠ b.getD k 0) : fore a b (i + 1) (k + 1) = max (fore a b (i + 1) k) (fore a b i (k + 1)) := by
  unfold fore
  rw [take_at hi, take_at hk, lc_unlike _ _ h, Nat.max_comm]
theorem fore_le (a b : List UInt8) (i k : Nat) : fore a b i k ≤ a.length := by
  unfold fore
  have := lc_left (a.take i) (b.take k)
  rw [List.length_take] at this
  omega

/-- Does a lie in b? -/
def lies (a b : List UInt8) : Bool := a.isSublist b
theorem lies_iff {a b : List UInt8} : lies a b = true ↔ List.Sublist a b := List.isSublist_iff_sublist
theorem lies_nil (b : List UInt8) : lies [] b = true := lies_iff.2 (List.nil_sublist b)
theorem lies_end {a : List UInt8} (h : a ≠ []) : lies a [] = false := by
  rw [← Bool.not_eq_true, lies_iff, List.sublist_nil]; exact h
theorem lies_cons (x : UInt8) (a b : List UInt8) : lies (x :: a) (x :: b) = lies a b := by
  rw [Bool.eq_iff_iff, lies_iff, lies_iff, List.cons_sublist_cons]
theorem lies_skip {x y : UInt8} (h : x ≠ y) (a b : List UInt8) : lies (x :: a) (y :: b) = lies (x :: a) b := by
  rw [Bool.eq_iff_iff, lies_iff, lies_iff]
  constructor
  · intro k
    cases k with
    | cons _ k1 => exact k1
    | cons_cons _ k1 => exact absurd rfl h
  · exact fun k => k.cons y
theorem lies_lc (a b : List UInt8) : lies a b = decide (lc a b = a.length) := by
  rw [Bool.eq_iff_iff, lies_iff, decide_eq_true_iff, lc_full]
/-- The greedy search: k bytes of a are matched in the first i of b. -/
def Gr (a b : List UInt8) (k i : Nat) : Prop := k ≤ a.length ∧ i ≤ b.length ∧ lies a b = lies (a.drop k) (b.drop i)
theorem Gr.start (a b : List UInt8) : Gr a b 0 0 := ⟨Nat.zero_le _, Nat.zero_le _, rfl⟩
theorem Gr.hit {a b : List UInt8} {k i : Nat} (h : Gr a b k i) (hk : k < a.length) (hi : i < b.length) (e : a.getD k 0 = b.getD i 0) : Gr a b (k + 1) (i + 1) := by
  refine ⟨hk, hi, ?_⟩
  rw [h.2.2, drop_at hk, drop_at hi, e, lies_cons]
theorem Gr.miss {a b : List UInt8} {k i : Nat} (h : Gr a b k i) (hk : k < a.length) (hi : i < b.length) (e : a.getD k 0 ≠ b.getD i 0) : Gr a b k (i + 1) := by
  refine ⟨Nat.le_of_lt hk, hi, ?_⟩
  rw [h.2.2, drop_at hk, drop_at hi, lies_skip e]
theorem Gr.done {a b : List UInt8} {k i : Nat} (h : Gr a b k i) (e : ¬ i < b.length ∨ ¬ k < a.length) : decide (k = a.length) = lies a b := by
  obtain ⟨h1, h2, h3⟩ := h
  rw [h3]
  by_cases hk : k = a.length
  · rw [decide_eq_true hk, List.drop_eq_nil_of_le (by omega), lies_nil]
  · rw [decide_eq_false hk, List.drop_eq_nil_of_le (as := b) (by omega), lies_end]
    intro e
    have : (a.drop k).length = 0 := by rw [e]; rfl
    rw [List.length_drop] at this
    omega
/-- By the first place of a's first byte. -/
theorem lies_first {x : UInt8} {a : List UInt8} : ∀ {b : List UInt8} {k : Nat}, k < b.length → b.getD k 0 = x → (∀ j, j < k → b.getD j 0 ≠ x) → lies (x :: a) b = lies a (b.drop (k + 1))
  | [], k, h, _, _ => by simp at h
  | y :: b, 0, _, e, _ => by
    have : y = x := e
    rw [this, lies_cons]; rfl
  | y :: b, k + 1, h, e, hn => by
    have hy : x ≠ y := fun q => hn 0 (by omega) q.symm
    rw [lies_skip hy, List.drop_succ_cons]
    exact lies_first (by simpa using h) e (fun j hj => hn (j + 1) (by omega))
theorem lies_never {x : UInt8} {a : List UInt8} : ∀ {b : List UInt8}, (∀ j, j < b.length → b.getD j 0 ≠ x) → lies (x :: a) b = false
  | [], _ => lies_end (by simp)
  | y :: b, hn => by
    have hy : x ≠ y := fun q => hn 0 (by simp) q.symm
    rw [lies_skip hy]
    exact lies_never fun j hj => hn (j + 1) (by simpa using hj)

/-- Places that were found: (i, j) is reached, the lists L and M hold the places so far. -/
structure Pl (a b : List UInt8) (L M : List Nat) (i j : Nat) : Prop where
  ilt : i ≤ a.length
  jlt : j ≤ b.length
  same : L.length = M.length
  left : ∀ k, k < L.length → L.getD k 0 < i
  right : ∀ k, k < L.length → M.getD k 0 < j
  alike : ∀ k, k < L.length → a.getD (L.getD k 0) 0 = b.getD (M.getD k 0) 0
  up : ∀ k, k + 1 < L.length → L.getD k 0 < L.getD (k + 1) 0 ∧ M.getD k 0 < M.getD (k + 1) 0
  all : L.length + rest a b i j = lc a b
theorem Pl.start (a b : List UInt8) : Pl a b [] [] 0 0 := by
  refine ⟨Nat.zero_le _, Nat.zero_le _, rfl, ?_, ?_, ?_, ?_, ?_⟩
  · intro k h; simp at h
  · intro k h; simp at h
  · intro k h; simp at h
  · intro k h; simp at h
  · rw [rest_zero]; simp
theorem snoc_lt {L : List Nat} {x k : Nat} (h : k < L.length) : (L ++ [x]).getD k 0 = L.getD k 0 := by
  rw [List.getD_eq_getElem?_getD, List.getElem?_append_left h, List.getD_eq_getElem?_getD]
theorem snoc_at {L : List Nat} {x k : Nat} (h : k = L.length) : (L ++ [x]).getD k 0 = x := by
  subst h
  simp
theorem Pl.hit {a b : List UInt8} {L M : List Nat} {i j : Nat} (h : Pl a b L M i j) (hi : i < a.length) (hj : j < b.length) (e : a.getD i 0 = b.getD j 0) : Pl a b (L ++ [i]) (M ++ [j]) (i + 1) (j + 1) := by
  have hs := h.same
  refine ⟨hi, hj, by simp [hs], fun k hk => ?_, fun k hk => ?_, fun k hk => ?_, fun k hk => ?_, ?_⟩
  · rw [List.length_append, List.length_singleton] at hk
    by_cases hlt : k < L.length
    · rw [snoc_lt hlt]; have := h.left k hlt; omega
    · rw [snoc_at (by omega)]; omega
  · rw [List.length_append, List.length_singleton] at hk
    by_cases hlt : k < L.length
    · rw [snoc_lt (by omega)]; have := h.right k hlt; omega
    · rw [snoc_at (by omega)]; omega
  · rw [List.length_append, List.length_singleton] at hk
    by_cases hlt : k < L.length
    · rw [snoc_lt hlt, snoc_lt (by omega)]; exact h.alike k hlt
    · rw [snoc_at (by omega), snoc_at (by omega)]; exact e
  · rw [List.length_append, List.length_singleton] at hk
    by_cases hlt : k + 1 < L.length
    · rw [snoc_lt (L := L) (k := k) (by omega), snoc_lt (L := M) (k := k) (by omega), snoc_lt (L := L) (k := k + 1) hlt, snoc_lt (L := M) (k := k + 1) (by omega)]; exact h.up k hlt
    · rw [snoc_lt (L := L) (k := k) (by omega), snoc_lt (L := M) (k := k) (by omega), snoc_at (L := L) (k := k + 1) (by omega), snoc_at (L := M) (k := k + 1) (by omega)]
      exact ⟨h.left k (by omega), h.right k (by omega)⟩
  · have := h.all
    rw [rest_same hi hj e] at this
    rw [List.length_append, List.length_singleton]
    omega
theorem Pl.down {a b : List UInt8} {L M : List Nat} {i j : Nat} (h : Pl a b L M i j) (hi : i < a.length) (e : rest a b (i + 1) j = rest a b i j) : Pl a b L M (i + 1) j :=
  ⟨hi, h.jlt, h.same, fun k hk => by have := h.left k hk; omega, h.right, h.alike, h.up, by rw [e]; exact h.all⟩
theorem Pl.over {a b : List UInt8} {L M : List Nat} {i j : Nat} (h : Pl a b L M i j) (hi : i < a.length) (hj : j < b.length) (hn : a.getD i 0 ≠ b.getD j 0) (e : rest a b (i + 1) j ≠ rest a b i j) : Pl a b L M i (j + 1) := by
  refine ⟨h.ilt, hj, h.same, h.left, fun k hk => by have := h.right k hk; omega, h.alike, h.up, ?_⟩
  have h1 := rest_unlike hi hj hn
  have : rest a b i (j + 1) = rest a b i j := by omega
  rw [this]
  exact h.all
/-- The places of a longest common subsequence. -/
structure Lcs (a b : List UInt8) (L M : List Nat) : Prop where
  len : L.length = lc a b
  same : M.length = lc a b
  left : ∀ k, k < L.length → L.getD k 0 < a.length
  right : ∀ k, k < L.length → M.getD k 0 < b.length
  alike : ∀ k, k < L.length → a.getD (L.getD k 0) 0 = b.getD (M.getD k 0) 0
  up : ∀ k, k + 1 < L.length → L.getD k 0 < L.getD (k + 1) 0 ∧ M.getD k 0 < M.getD (k + 1) 0
theorem Pl.done {a b : List UInt8} {L M : List Nat} {i j : Nat} (h : Pl a b L M i j) (e : ¬ 0 < rest a b i j) : Lcs a b L M := by
  have h1 := h.all
  have h2 := h.same
  have h3 := h.ilt
  have h4 := h.jlt
  exact ⟨by omega, by omega, fun k hk => by have := h.left k hk; omega, fun k hk => by have := h.right k hk; omega, h.alike, h.up⟩
theorem Pl.len {a b : List UInt8} {L M : List Nat} {i j : Nat} (h : Pl a b L M i j) : L.length ≤ a.length := by
  have h1 := h.all
  have := lc_left a b
  omega
/-- What stands at rising places is a subsequence. -/
theorem taken {a : List UInt8} : ∀ (L : List Nat) (lo : Nat), (∀ k, k < L.length → lo ≤ L.getD k 0 ∧ L.getD k 0 < a.length) → (∀ k, k + 1 < L.length → L.getD k 0 < L.getD (k + 1) 0) → List.Sublist (L.map fun p => a.getD p 0) (a.drop lo)
  | [], lo, _, _ => List.nil_sublist _
  | p :: L, lo, h, up => by
    have h0 := h 0 (by simp)
    have hp : lo ≤ p ∧ p < a.length := h0
    have ih := taken L (p + 1) (fun k hk => by
      have h1 := h (k + 1) (by simpa using hk)
      have e1 : (p :: L).getD (k + 1) 0 = L.getD k 0 := rfl
      rw [e1] at h1
      refine ⟨?_, h1.2⟩
      clear h0 hp
      induction k with
      | zero => exact up 0 (by simpa using hk)
      | succ k ihk =>
        have h2 := ihk (by omega) (h (k + 1) (by simp; omega)) rfl
        have h3 := up (k + 1) (by simpa using hk)
        have h4 : L.getD k 0 < L.getD (k + 1) 0 := h3
        omega) (fun k hk => up (k + 1) (by simpa using hk))
    rw [List.map_cons]
    have h1 : List.Sublist (a.getD p 0 :: a.drop (p + 1)) (a.drop lo) := by
      rw [← drop_at hp.2]
      have : a.drop p = (a.drop lo).drop (p - lo) := by rw [List.drop_drop]; congr 1; omega
      rw [this]
      exact List.drop_sublist _ _
    exact (ih.cons_cons _).trans h1
theorem Lcs.sub_left {a b : List UInt8} {L M : List Nat} (h : Lcs a b L M) : List.Sublist (L.map fun p => a.getD p 0) a := by
  have := taken (a := a) L 0 (fun k hk => ⟨Nat.zero_le _, h.left k hk⟩) (fun k hk => (h.up k hk).1)
  rwa [List.drop_zero] at this
theorem Lcs.sub_right {a b : List UInt8} {L M : List Nat} (h : Lcs a b L M) : List.Sublist (M.map fun p => b.getD p 0) b := by
  have hs : M.length = L.length := by rw [h.same, h.len]
  have := taken (a := b) M 0 (fun k hk => ⟨Nat.zero_le _, h.right k (by omega)⟩) (fun k hk => (h.up k (by omega)).2)
  rwa [List.drop_zero] at this
theorem Lcs.word {a b : List UInt8} {L M : List Nat} (h : Lcs a b L M) : (L.map fun p => a.getD p 0) = M.map fun p => b.getD p 0 := by
  apply List.ext_getElem
  · rw [List.length_map, List.length_map, h.len, h.same]
  · intro k h1 h2
    rw [List.length_map] at h1 h2
    have := h.alike k h1
    rw [List.getD_eq_getElem?_getD (l := L), List.getD_eq_getElem?_getD (l := M), List.getElem?_eq_getElem h1, List.getElem?_eq_getElem h2] at this
    simpa using this
end Go.Proofs.Ytejcijlmpiiffaa.Sa
