
/-
Move-to-front as lists: the list of all bytes, what stands ahead of what, and the way back.
-/
namespace Go.Proofs.Ytjbpgeakjcmnaaa.Fm

/-- From the last one on. -/
theorem snoc_ind {α : Type} {M : List α → Prop} (h0 : M []) (h1 : ∀ L x, M L → M (L ++ [x])) : ∀ L, M L := by
  intro L
  have : ∀ R : List α, M R.reverse := by
    intro R
    induction R with
    | nil => exact h0
    | cons a r ih => rw [List.reverse_cons]; exact h1 _ _ ih
  have := this L.reverse
  rwa [List.reverse_reverse] at this
def every : List UInt8 := (List.range 256).map UInt8.ofNat
theorem every_len : every.length = 256 := by simp [every]
theorem every_at {k : Nat} (h : k < 256) : every.getD k 0 = UInt8.ofNat k := by
  simp [every, List.getD_eq_getElem?_getD, h]
theorem ofNat_inj {i j : Nat} (hi : i < 256) (hj : j < 256) (h : UInt8.ofNat i = UInt8.ofNat j) : i = j := by
  have := congrArg UInt8.toNat h
  rw [UInt8.toNat_ofNat', UInt8.toNat_ofNat'] at this
  omega
theorem every_nodup : every.Nodup := by
  unfold every
  rw [List.nodup_iff_pairwise_ne, List.pairwise_map]
  refine List.Pairwise.imp_of_mem ?_ (List.nodup_iff_pairwise_ne.1 (List.nodup_range (n := 256)))
  intro a b ha hb hne h
  exact hne (ofNat_inj (List.mem_range.1 ha) (List.mem_range.1 hb) h)
theorem every_mem (c : UInt8) : c ∈ every := List.mem_map.2 ⟨c.toNat, List.mem_range.2 c.toNat_lt, by simp⟩

/-- What comes to the front: the byte at k. -/
def mv (L : List UInt8) (k : Nat) : List UInt8 := L.getD k 0 :: (L.take k ++ L.drop (k + 1))
theorem getD_lt {α : Type} {L : List α} {k : Nat} (d : α) (h : k < L.length) : L.getD k d = L[k] := by simp [List.getD_eq_getElem?_getD, h]
theorem mv_perm {L : List UInt8} {k : Nat} (h : k < L.length) : (mv L k).Perm L := by
  have e : L = L.take k ++ L[k] :: L.drop (k + 1) := by rw [← List.drop_eq_getElem_cons h, List.take_append_drop]
  unfold mv
  rw [getD_lt 0 h]
  have := (List.perm_middle (a := L[k]) (l₁ := L.take k) (l₂ := L.drop (k + 1))).symm
  rwa [← e] at this
/-- All bytes, each once. -/
def Full (L : List UInt8) : Prop := L.Perm every
theorem Full.start : Full every := List.Perm.refl _
theorem Full.len {L : List UInt8} (h : Full L) : L.length = 256 := by rw [List.Perm.length_eq h, every_len]
theorem Full.mem {L : List UInt8} (h : Full L) (c : UInt8) : c ∈ L := (List.Perm.mem_iff h).2 (every_mem c)
theorem Full.nodup {L : List UInt8} (h : Full L) : L.Nodup := (List.Perm.nodup_iff h).2 every_nodup
theorem Full.mv {L : List UInt8} (h : Full L) {k : Nat} (hk : k < 256) : Full (mv L k) := (mv_perm (by rw [h.len]; exact hk)).trans h
theorem Full.idx {L : List UInt8} (h : Full L) (c : UInt8) : L.idxOf c < 256 := by rw [← h.len]; exact List.idxOf_lt_length_of_mem (h.mem c)
theorem Full.at_ {L : List UInt8} (h : Full L) (c : UInt8) : L.getD (L.idxOf c) 0 = c := by
  rw [getD_lt 0 (by rw [h.len]; exact h.idx c)]
  exact List.getElem_idxOf _
theorem nodup_idx {L : List UInt8} (h : L.Nodup) {k : Nat} (hk : k < L.length) : L.idxOf L[k] = k := by
  have h1 : L.idxOf L[k] < L.length := List.idxOf_lt_length_of_mem (List.getElem_mem hk)
  have e := List.getElem_idxOf h1
  rw [List.nodup_iff_pairwise_ne, List.pairwise_iff_getElem] at h
  rcases Nat.lt_trichotomy (L.idxOf L[k]) k with h2 | h2 | h2
  · exact absurd e (h _ _ h1 hk h2)
  · exact h2
  · exact absurd e.symm (h _ _ hk h1 h2)
theorem Full.idx_at {L : List UInt8} (h : Full L) {k : Nat} (hk : k < 256) : L.idxOf (L.getD k 0) = k := by
  have hk' : k < L.length := by rw [h.len]; exact hk
  rw [getD_lt 0 hk']
  exact nodup_idx h.nodup hk'

/-! ### there -/
/-- The list when p has come. -/
def st (p : List UInt8) : List UInt8 := p.foldl (fun L c => mv L (L.idxOf c)) every
theorem st_snoc (p : List UInt8) (c : UInt8) : st (p ++ [c]) = mv (st p) ((st p).idxOf c) := by unfold st; rw [List.foldl_append]; rfl
theorem st_full (p : List UInt8) : Full (st p) := by
  induction p using snoc_ind with
  | h0 => exact Full.start
  | h1 p c ih => rw [st_snoc]; exact ih.mv (ih.idx c)
theorem st_head (p : List UInt8) (c : UInt8) : (st (p ++ [c])).head? = some c := by
  rw [st_snoc]
  unfold mv
  rw [(st_full p).at_ c]
  rfl
/-- What Put answers. -/
def putL (s : List UInt8) : List Nat := (List.range s.length).map fun i => (st (s.take i)).idxOf (s.getD i 0)
theorem putL_len (s : List UInt8) : (putL s).length = s.length := by simp [putL]
theorem putL_at {s : List UInt8} {i : Nat} (h : i < s.length) : (putL s).getD i 0 = (st (s.take i)).idxOf (s.getD i 0) := by
  simp [putL, List.getD_eq_getElem?_getD, h]
theorem putL_lt {s : List UInt8} {i : Nat} (h : i < s.length) : (putL s).getD i 0 < 256 := by rw [putL_at h]; exact (st_full _).idx _
theorem take_snoc {α : Type} {s : List α} {i : Nat} (d : α) (h : i < s.length) : s.take (i + 1) = s.take i ++ [s.getD i d] := by
  rw [List.take_add_one, getD_lt d h]
  simp [h]
theorem putL_take {s : List UInt8} {i : Nat} (h : i < s.length) : putL (s.take (i + 1)) = putL (s.take i) ++ [(st (s.take i)).idxOf (s.getD i 0)] := by
  have hl : (s.take (i + 1)).length = i + 1 := by rw [List.length_take]; omega
  have hl2 : (s.take i).length = i := by rw [List.length_take]; omega
  unfold putL
  rw [hl, hl2, List.range_succ, List.map_append]
  refine congr (congrArg _ ?_) ?_
  · refine List.map_congr_left fun k hk => ?_
    have hk := List.mem_range.1 hk
    rw [List.take_take, List.take_take, Nat.min_eq_left (by omega), Nat.min_eq_left (by omega)]
    have e : (s.take (i + 1)).getD k 0 = (s.take i).getD k 0 := by simp [List.getD_eq_getElem?_getD, hk, show k < i + 1 by omega]
    rw [e]
  · rw [List.map_singleton, List.take_take, Nat.min_eq_left (by omega)]
    have e : (s.take (i + 1)).getD i 0 = s.getD i 0 := by simp [List.getD_eq_getElem?_getD]
    rw [e]
theorem putL_nil : putL [] = [] := rfl
theorem idx_zero {L : List UInt8} {c d : UInt8} (h : L.head? = some d) : L.idxOf c = 0 ↔ c = d := by
  cases L with
  | nil => cases h
  | cons a r =>
    injection h with h
    subst h
    rw [List.idxOf_cons]
    by_cases e : a = c
    · simp [e]
    · have e2 : (a == c) = false := beq_eq_false_iff_ne.2 e
      have e3 : c ≠ a := fun h => e h.symm
      simp [e2, e3]
/-- A byte that came just now stands first. -/
theorem putL_zero {s : List UInt8} {i : Nat} (h : i + 1 < s.length) : (putL s).getD (i + 1) 0 = 0 ↔ s.getD (i + 1) 0 = s.getD i 0 := by
  rw [putL_at h, take_snoc 0 (show i < s.length by omega)]
  exact idx_zero (st_head _ _)

/-! ### and back -/
/-- The list when the places l have been taken. -/
def gs (l : List Nat) : List UInt8 := l.foldl mv every
theorem gs_snoc (l : List Nat) (k : Nat) : gs (l ++ [k]) = mv (gs l) k := by unfold gs; rw [List.foldl_append]; rfl
def getL (l : List Nat) : List UInt8 := (List.range l.length).map fun i => (gs (l.take i)).getD (l.getD i 0) 0
theorem getL_len (l : List Nat) : (getL l).length = l.length := by simp [getL]
theorem getL_at {l : List Nat} {i : Nat} (h : i < l.length) : (getL l).getD i 0 = (gs (l.take i)).getD (l.getD i 0) 0 := by
  simp [getL, List.getD_eq_getElem?_getD, h]
theorem gs_full (l : List Nat) (h : ∀ k ∈ l, k < 256) : Full (gs l) := by
  induction l using snoc_ind with
  | h0 => exact Full.start
  | h1 l c ih =>
    rw [gs_snoc]
    exact (ih fun k hk => h k (List.mem_append_left _ hk)).mv (h c (by simp))
theorem getL_take {l : List Nat} {i : Nat} (h : i < l.length) : getL (l.take (i + 1)) = getL (l.take i) ++ [(gs (l.take i)).getD (l.getD i 0) 0] := by
  have hl : (l.take (i + 1)).length = i + 1 := by rw [List.length_take]; omega
  have hl2 : (l.take i).length = i := by rw [List.length_take]; omega
  unfold getL
  rw [hl, hl2, List.range_succ, List.map_append]
  refine congr (congrArg _ ?_) ?_
  · refine List.map_congr_left fun k hk => ?_
    have hk := List.mem_range.1 hk
    rw [List.take_take, List.take_take, Nat.min_eq_left (by omega), Nat.min_eq_left (by omega)]
    have e : (l.take (i + 1)).getD k 0 = (l.take i).getD k 0 := by simp [List.getD_eq_getElem?_getD, hk, show k < i + 1 by omega]
    rw [e]
  · rw [List.map_singleton, List.take_take, Nat.min_eq_left (by omega)]
    have e : (l.take (i + 1)).getD i 0 = l.getD i 0 := by simp [List.getD_eq_getElem?_getD]
    rw [e]
theorem gs_put (s : List UInt8) {i : Nat} (hi : i ≤ s.length) : gs ((putL s).take i) = st (s.take i) := by
  induction i with
  | zero => rfl
  | succ i ih =>
    have h : i < s.length := by omega
    rw [take_snoc 0 (by rw [putL_len]; exact h), take_snoc 0 h, gs_snoc, st_snoc, ih (by omega), putL_at h]
theorem ext_getD {α : Type} {a b : List α} (d : α) (hl : a.length = b.length) (h : ∀ i, i < a.length → a.getD i d = b.getD i d) : a = b := by
  refine List.ext_getElem hl fun i h1 h2 => ?_
  have := h i h1
  rwa [getD_lt d h1, getD_lt d h2] at this
/-- Put, then Get. -/
theorem get_put (s : List UInt8) : getL (putL s) = s := by
  refine ext_getD 0 (by rw [getL_len, putL_len]) fun i hi => ?_
  rw [getL_len, putL_len] at hi
  rw [getL_at (by rw [putL_len]; exact hi), gs_put s (by omega), putL_at hi]
  exact (st_full _).at_ _
theorem st_get (l : List Nat) (hl : ∀ k ∈ l, k < 256) {i : Nat} (hi : i ≤ l.length) : st ((getL l).take i) = gs (l.take i) := by
  induction i with
  | zero => rfl
  | succ i ih =>
    have h : i < l.length := by omega
    have hk : l.getD i 0 < 256 := by rw [getD_lt 0 h]; exact hl _ (List.getElem_mem h)
    rw [take_snoc 0 (by rw [getL_len]; exact h), take_snoc 0 h, gs_snoc, st_snoc, ih (by omega), getL_at h]
    rw [(gs_full _ fun k hk => hl k (List.mem_of_mem_take hk)).idx_at hk]
/-- Get, then Put. -/
theorem put_get (l : List Nat) (hl : ∀ k ∈ l, k < 256) : putL (getL l) = l := by
  refine ext_getD 0 (by rw [putL_len, getL_len]) fun i hi => ?_
  rw [putL_len, getL_len] at hi
  have hk : l.getD i 0 < 256 := by rw [getD_lt 0 hi]; exact hl _ (List.getElem_mem hi)
  rw [putL_at (by rw [getL_len]; exact hi), st_get l hl (by omega), getL_at hi]
  exact (gs_full _ fun k hk => hl k (List.mem_of_mem_take hk)).idx_at hk

/-! ### what stands ahead -/
def Bef (L : List UInt8) (b c : UInt8) : Prop := L.idxOf b < L.idxOf c
instance (L : List UInt8) (b c : UInt8) : Decidable (Bef L b c) := by unfold Bef; infer_instance
theorem idx_app {A B : List UInt8} {c : UInt8} : (A ++ B).idxOf c = if c ∈ A then A.idxOf c else A.length + B.idxOf c := by
  rw [List.idxOf_append]
  by_cases h : c ∈ A
  · rw [if_pos h, if_pos h]
  · rw [if_neg h, if_neg h]; omega
theorem mid {L : List UInt8} {x : UInt8} (h : x ∈ L) : L = L.take (L.idxOf x) ++ x :: L.drop (L.idxOf x + 1) := by
  have hk := List.idxOf_lt_length_of_mem h
  have := List.drop_eq_getElem_cons hk
  rw [List.getElem_idxOf hk] at this
  rw [← this, List.take_append_drop]
theorem bef_mv {L : List UInt8} (hL : Full L) (x b c : UInt8) : Bef (mv L (L.idxOf x)) b c ↔ (b = x ∧ c ≠ x) ∨ (b ≠ x ∧ c ≠ x ∧ Bef L b c) := by
  have e := mid (hL.mem x)
  obtain ⟨A, hA⟩ : ∃ A, A = L.take (L.idxOf x) := ⟨_, rfl⟩
  obtain ⟨B, hB⟩ : ∃ B, B = L.drop (L.idxOf x + 1) := ⟨_, rfl⟩
  have em : mv L (L.idxOf x) = x :: (A ++ B) := by unfold mv; rw [hL.at_ x, ← hA, ← hB]
  rw [em]
  rw [← hA, ← hB] at e
  clear hA hB em
  unfold Bef
  rw [e, List.idxOf_cons, List.idxOf_cons, idx_app, idx_app, idx_app, idx_app, List.idxOf_cons, List.idxOf_cons]
  have hx : (x == x) = true := by simp
  have la : ∀ y, y ∈ A → A.idxOf y < A.length := fun y => List.idxOf_lt_length_of_mem
  have hb := la b
  have hc := la c
  by_cases h1 : b = x
  · subst h1
    by_cases h2 : c = b
    · subst h2; simp
    · have h3 : (b == c) = false := beq_eq_false_iff_ne.2 fun h => h2 h.symm
      simp [h2, h3]
  · have h1' : (x == b) = false := beq_eq_false_iff_ne.2 fun h => h1 h.symm
    by_cases h2 : c = x
    · subst h2
      simp [h1]
    · have h3 : (x == c) = false := beq_eq_false_iff_ne.2 fun h => h2 h.symm
      simp only [h1', h3, h1, h2, cond_false, ne_eq, not_false_eq_true, false_and, true_and, false_or]
      by_cases p : b ∈ A <;> by_cases q : c ∈ A <;> simp only [p, q, if_true, if_false] <;> simp only [p, q, forall_const, false_implies] at hb hc <;> omega
/-- From a list L on, a tail r in which c is not: what stands ahead of c. -/
theorem bef_tail {q : List UInt8} {c : UInt8} : ∀ r : List UInt8, c ∉ r → ∀ b, Bef (st (q ++ r)) b c ↔ b ∈ r ∨ Bef (st q) b c := by
  intro r
  induction r using snoc_ind with
  | h0 => intro _ b; simp
  | h1 r x ih =>
    intro hc b
    rw [List.mem_append, List.mem_singleton, not_or] at hc
    rw [← List.append_assoc, st_snoc, bef_mv (st_full _), ih hc.1 b, List.mem_append, List.mem_singleton]
    have h2 : c ≠ x := hc.2
    by_cases hb : b = x
    · simp [hb, h2]
    · simp [hb, h2]
theorem bef_head {q : List UInt8} {c : UInt8} (b : UInt8) : ¬ Bef (st (q ++ [c])) b c := by
  unfold Bef
  have := (idx_zero (st_head q c) (c := c)).2 rfl
  omega
theorem every_idx (c : UInt8) : every.idxOf c = c.toNat := by
  have := Full.start.idx_at (k := c.toNat) c.toNat_lt
  rw [every_at c.toNat_lt] at this
  simpa using this
/-- How many stand ahead is where one stands. -/
theorem count_lt (n k : Nat) (h : k ≤ n) : (List.range n).countP (fun i => decide (i < k)) = k := by
  induction n with
  | zero => simp; omega
  | succ n ih =>
    rw [List.range_succ, List.countP_append]
    by_cases h2 : k ≤ n
    · rw [ih h2]
      simp; omega
    · obtain rfl : k = n + 1 := by omega
      have : (List.range n).countP (fun i => decide (i < n + 1)) = (List.range n).length := by
        rw [List.countP_eq_length]
        intro i hi
        have := List.mem_range.1 hi
        simp; omega
      rw [this]
      simp
theorem as_range (L : List UInt8) : L = (List.range L.length).map (fun i => L.getD i 0) := by
  refine List.ext_getElem (by simp) fun i h1 h2 => ?_
  simp [h1]
theorem bef_count {L : List UInt8} (hL : Full L) (c : UInt8) : (List.range 256).countP (fun k => decide (Bef L (UInt8.ofNat k) c)) = L.idxOf c := by
  have h1 : (List.range 256).countP (fun k => decide (Bef L (UInt8.ofNat k) c)) = every.countP (fun b => decide (Bef L b c)) := by
    unfold every
    rw [List.countP_map]
    rfl
  have h2 := List.Perm.countP_eq (fun b => decide (Bef L b c)) hL
  rw [h1, ← h2]
  have e := as_range L
  have h3 : L.countP (fun b => decide (Bef L b c)) = (List.range L.length).countP (fun i => decide (i < L.idxOf c)) := by
    conv => lhs; rw [show L.countP (fun b => decide (Bef L b c)) = ((List.range L.length).map (fun i => L.getD i 0)).countP (fun b => decide (Bef L b c)) from congrArg (fun M => M.countP (fun b => decide (Bef L b c))) e]
    rw [List.countP_map]
    refine List.countP_congr fun i hi => ?_
    have hi := List.mem_range.1 hi
    rw [Function.comp, decide_eq_true_iff, decide_eq_true_iff]
    unfold Bef
    rw [hL.idx_at (by rw [← hL.len]; exact hi)]
  rw [h3]
  exact count_lt _ _ (by have := hL.idx c; rw [hL.len]; omega)
/-- Where a byte stands that has not come since q ++ [it]: as many as unlike ones came since. -/
theorem ago_came (q r : List UInt8) (c : UInt8) (h : c ∉ r) : (st (q ++ [c] ++ r)).idxOf c = (List.range 256).countP (fun k => decide (UInt8.ofNat k ∈ r)) := by
  rw [← bef_count (st_full _)]
  refine List.countP_congr fun k _ => ?_
  rw [decide_eq_true_iff, decide_eq_true_iff, bef_tail r h]
  constructor
  · rintro (h1 | h1)
    · exact h1
    · exact absurd h1 (bef_head _)
  · exact .inl
/-- Where one stands that never came. -/
theorem ago_new (p : List UInt8) (c : UInt8) (h : c ∉ p) : (st p).idxOf c = (List.range 256).countP (fun k => decide (UInt8.ofNat k ∈ p) && decide (c.toNat < k)) + c.toNat := by
  rw [← bef_count (st_full _)]
  have hc := c.toNat_lt
  have e := count_lt 256 c.toNat (by omega)
  have hs : ∀ n, n ≤ 256 → (List.range n).countP (fun k => decide (Bef (st p) (UInt8.ofNat k) c)) = (List.range n).countP (fun k => decide (UInt8.ofNat k ∈ p) && decide (c.toNat < k)) + (List.range n).countP (fun i => decide (i < c.toNat)) := by
    intro n
    induction n with
    | zero => intro _; rfl
    | succ n ih =>
      intro hn
      rw [List.range_succ, List.countP_append, List.countP_append, List.countP_append, ih (by omega)]
      have hb : Bef (st p) (UInt8.ofNat n) c ↔ UInt8.ofNat n ∈ p ∨ n < c.toNat := by
        have := bef_tail (q := []) p h (UInt8.ofNat n)
        rw [List.nil_append] at this
        rw [this]
        refine or_congr Iff.rfl ?_
        unfold Bef
        rw [show st [] = every from rfl, every_idx, every_idx, UInt8.toNat_ofNat', Nat.mod_eq_of_lt (by omega)]
      have hne : n = c.toNat → ¬ UInt8.ofNat n ∈ p := by
        intro e hm
        rw [e, UInt8.ofNat_toNat] at hm
        exact h hm
      simp only [List.countP_singleton, hb]
      by_cases h1 : UInt8.ofNat n ∈ p
      · have h2 : n ≠ c.toNat := fun e => hne e h1
        by_cases h3 : c.toNat < n
        · have h4 : ¬ n < c.toNat := by omega
          simp [h1, h3, h4]; omega
        · have h4 : n < c.toNat := by omega
          simp [h1, h3, h4]; omega
      · by_cases h4 : n < c.toNat
        · simp [h1, h4]; omega
        · simp [h1, h4]
  rw [hs 256 (Nat.le_refl _), e]

/-! ### how many unlike ones -/
/-- The unlike bytes of p. -/
def un (p : List UInt8) : Nat := (List.range 256).countP (fun k => decide (UInt8.ofNat k ∈ p))
theorem count_one (x : Nat) : ∀ n, (List.range n).countP (fun k => decide (k = x)) = if x < n then 1 else 0 := by
  intro n
  induction n with
  | zero => simp
  | succ n ih =>
    rw [List.range_succ, List.countP_append, ih]
    by_cases h : n = x
    · subst h; simp
    · by_cases h2 : x < n
      · simp [h, h2]; omega
      · simp [h, h2]; omega
theorem un_nil : un [] = 0 := by
  unfold un
  rw [List.countP_eq_zero]
  intro k _
  simp
theorem un_snoc (p : List UInt8) (c : UInt8) : un (p ++ [c]) = if c ∈ p then un p else un p + 1 := by
  unfold un
  by_cases h : c ∈ p
  · rw [if_pos h]
    refine List.countP_congr fun k _ => ?_
    rw [decide_eq_true_iff, decide_eq_true_iff, List.mem_append, List.mem_singleton]
    constructor
    · rintro (h1 | h1)
      · exact h1
      · rw [h1]; exact h
    · exact .inl
  · rw [if_neg h]
    have key : ∀ n, n ≤ 256 → (List.range n).countP (fun k => decide (UInt8.ofNat k ∈ p ++ [c])) = (List.range n).countP (fun k => decide (UInt8.ofNat k ∈ p)) + (List.range n).countP (fun k => decide (k = c.toNat)) := by
      intro n
      induction n with
      | zero => intro _; rfl
      | succ n ih =>
        intro hn
        rw [List.range_succ, List.countP_append, List.countP_append, List.countP_append, ih (by omega)]
        simp only [List.countP_singleton, List.mem_append, List.mem_singleton]
        by_cases e : n = c.toNat
        · have e2 : UInt8.ofNat n = c := by rw [e]; simp
          rw [e2]
          simp [h, e]; omega
        · have e2 : UInt8.ofNat n ≠ c := fun h' => e (by rw [← h', UInt8.toNat_ofNat']; omega)
          simp [e, e2]; omega
    rw [key 256 (Nat.le_refl _), count_one, if_pos c.toNat_lt]
theorem un_count_le (p : List UInt8) (c : UInt8) (h : c ∉ p) : un p ≤ (List.range 256).countP (fun k => decide (UInt8.ofNat k ∈ p) && decide (c.toNat < k)) + c.toNat := by
  have e := count_lt 256 c.toNat (by have := c.toNat_lt; omega)
  have hs : ∀ n, n ≤ 256 → (List.range n).countP (fun k => decide (UInt8.ofNat k ∈ p)) ≤ (List.range n).countP (fun k => decide (UInt8.ofNat k ∈ p) && decide (c.toNat < k)) + (List.range n).countP (fun i => decide (i < c.toNat)) := by
    intro n
    induction n with
    | zero => intro _; exact Nat.le_refl _
    | succ n ih =>
      intro hn
      have := ih (by omega)
      rw [List.range_succ, List.countP_append, List.countP_append, List.countP_append]
      have hne : n = c.toNat → ¬ UInt8.ofNat n ∈ p := by
        intro e hm
        rw [e, UInt8.ofNat_toNat] at hm
        exact h hm
      simp only [List.countP_singleton]
      by_cases h1 : UInt8.ofNat n ∈ p
      · have h2 : n ≠ c.toNat := fun e => hne e h1
        by_cases h3 : c.toNat < n
        · simp [h1, h3]; omega
        · have h4 : n < c.toNat := by omega
          simp [h1, h3, h4]; omega
      · simp [h1]; omega
  have := hs 256 (Nat.le_refl _)
  rw [e] at this
  exact this
theorem split_last {p : List UInt8} {c : UInt8} (h : c ∈ p) : ∃ q r, p = q ++ [c] ++ r ∧ c ∉ r := by
  induction p using snoc_ind with
  | h0 => cases h
  | h1 p x ih =>
    by_cases e : c = x
    · subst e
      exact ⟨p, [], by simp, by simp⟩
    · have h1 : c ∈ p := by
        rcases List.mem_append.1 h with h | h
        · exact h
        · exact absurd (List.mem_singleton.1 h) e
      obtain ⟨q, r, h2, h3⟩ := ih h1
      refine ⟨q, r ++ [x], by rw [h2]; simp, ?_⟩
      rw [List.mem_append, List.mem_singleton, not_or]
      exact ⟨h3, e⟩
/-- A byte that came stands ahead of as many as there are unlike ones. -/
theorem few_came {p : List UInt8} {c : UInt8} (h : c ∈ p) : (st p).idxOf c < un p := by
  obtain ⟨q, r, rfl, hr⟩ := split_last h
  rw [ago_came q r c hr]
  unfold un
  have hs : ∀ n, n ≤ 256 → (List.range n).countP (fun k => decide (UInt8.ofNat k ∈ r)) + (List.range n).countP (fun k => decide (k = c.toNat)) ≤ (List.range n).countP (fun k => decide (UInt8.ofNat k ∈ q ++ [c] ++ r)) := by
    intro n
    induction n with
    | zero => intro _; exact Nat.le_refl _
    | succ n ih =>
      intro hn
      have := ih (by omega)
      rw [List.range_succ, List.countP_append, List.countP_append, List.countP_append]
      have hs1 : (if decide (UInt8.ofNat n ∈ r) = true then 1 else 0) + (if decide (n = c.toNat) = true then 1 else 0) ≤ (if decide (UInt8.ofNat n ∈ q ++ [c] ++ r) = true then 1 else 0) := by
        by_cases e : n = c.toNat
        · have e2 : UInt8.ofNat n = c := by rw [e]; simp
          rw [e2]
          simp [hr, e]
        · by_cases h1 : UInt8.ofNat n ∈ r
          · simp [e, h1]
          · simp [e, h1]
      rw [List.countP_singleton, List.countP_singleton, List.countP_singleton]
      omega
  have := hs 256 (Nat.le_refl _)
  rw [count_one, if_pos c.toNat_lt] at this
  omega
theorem few_new {p : List UInt8} {c : UInt8} (h : c ∉ p) : c.toNat ≤ (st p).idxOf c ∧ un p ≤ (st p).idxOf c := by
  rw [ago_new p c h]
  exact ⟨by omega, un_count_le p c h⟩
/-- Where a byte stands. -/
def ix (L : List UInt8) (c : UInt8) : Nat := L.idxOf c
theorem ix_cons (b : UInt8) (l : List UInt8) (c : UInt8) : ix (b :: l) c = if b = c then 0 else ix l c + 1 := by
  unfold ix
  rw [List.idxOf_cons]
  by_cases e : b = c
  · simp [e]
  · have : (b == c) = false := beq_eq_false_iff_ne.2 e
    rw [this, if_neg e]
    rfl
theorem putL_ix {s : List UInt8} {i : Nat} (h : i < s.length) : (putL s).getD i 0 = ix (st (s.take i)) (s.getD i 0) := putL_at h
theorem ix_came {p : List UInt8} {c : UInt8} (h : c ∈ p) : ix (st p) c < un p := few_came h
theorem ix_new {p : List UInt8} {c : UInt8} (h : c ∉ p) : c.toNat ≤ ix (st p) c ∧ un p ≤ ix (st p) c := few_new h
theorem un_in {p : List UInt8} {c : UInt8} (h : c ∈ p) : un (p ++ [c]) = un p := by rw [un_snoc, if_pos h]
theorem un_out {p : List UInt8} {c : UInt8} (h : c ∉ p) : un (p ++ [c]) = un p + 1 := by rw [un_snoc, if_neg h]
theorem ix_last (q r : List UInt8) (c : UInt8) (h : c ∉ r) : ix (st (q ++ [c] ++ r)) c = (List.range 256).countP (fun k => decide (UInt8.ofNat k ∈ r)) := ago_came q r c h
theorem ix_never (p : List UInt8) (c : UInt8) (h : c ∉ p) : ix (st p) c = (List.range 256).countP (fun k => decide (UInt8.ofNat k ∈ p) && decide (c.toNat < k)) + c.toNat := ago_new p c h
theorem un_le (p : List UInt8) : un p ≤ p.length := by
  induction p using snoc_ind with
  | h0 => rw [un_nil]; exact Nat.zero_le _
  | h1 p c ih =>
    rw [un_snoc, List.length_append]
    split <;> simp <;> omega
theorem Full.ix {L : List UInt8} (h : Full L) (c : UInt8) : ix L c < 256 := h.idx c
end Go.Proofs.Ytjbpgeakjcmnaaa.Fm
