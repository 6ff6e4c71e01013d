
/-
LZ78 as lists: the texts of phrases by their numbers, the row of phrases that a text is told by, and the way back.
-/
namespace Go.Proofs.Ytpifmahnlapdbaa.Ph

/-- A phrase: the number of one ahead of it, and a byte. -/
abbrev P := Int × UInt8
def tstep (T : List (List UInt8)) (p : P) : List (List UInt8) := T ++ [T.getD p.1.toNat [] ++ [p.2]]
/-- The texts by their numbers, of which 0 is nothing. -/
def tx (L : List P) : List (List UInt8) := L.foldl tstep [[]]
theorem tx_nil : tx [] = [[]] := rfl
theorem tx_snoc (L : List P) (p : P) : tx (L ++ [p]) = tx L ++ [(tx L).getD p.1.toNat [] ++ [p.2]] := by unfold tx; rw [List.foldl_append]; rfl
/-- From the last one on. -/
theorem snoc_ind {α : Type} {M : List α → Prop} (h0 : M []) (h1 : ∀ L x, M L → M (L ++ [x])) : ∀ L, M L := by
  intro L
  have : ∀ R : List α, M R.reverse := by
    intro R
    induction R with
    | nil => exact h0
    | cons a r ih => rw [List.reverse_cons]; exact h1 _ _ ih
  have := this L.reverse
  rwa [List.reverse_reverse] at this
theorem tx_len (L : List P) : (tx L).length = L.length + 1 := by
  induction L using snoc_ind with
  | h0 => rfl
  | h1 L p ih => rw [tx_snoc, List.length_append, List.length_append, ih]; rfl
theorem tx_zero (L : List P) : (tx L).getD 0 [] = [] := by
  induction L using snoc_ind with
  | h0 => rfl
  | h1 L p ih =>
    rw [tx_snoc, List.getD_eq_getElem?_getD, List.getElem?_append_left (by rw [tx_len]; omega), ← List.getD_eq_getElem?_getD, ih]
/-- Each phrase's number is of one ahead of it. -/
def Ok (L : List P) : Prop := ∀ i (h : i < L.length), 0 ≤ (L[i]).1 ∧ (L[i]).1 ≤ i
theorem Ok.nil : Ok [] := fun i h => by simp at h
theorem Ok.snoc {L : List P} {p : P} (h : Ok L) (h0 : 0 ≤ p.1) (h1 : p.1 ≤ L.length) : Ok (L ++ [p]) := by
  intro i hi
  rw [List.length_append, List.length_singleton] at hi
  rcases Nat.lt_or_ge i L.length with h2 | h2
  · rw [List.getElem_append_left h2]; exact h i h2
  · obtain rfl : i = L.length := by omega
    rw [List.getElem_concat_length rfl]
    exact ⟨h0, h1⟩
theorem Ok.left {L M : List P} (h : Ok (L ++ M)) : Ok L := by
  intro i hi
  have := h i (by rw [List.length_append]; omega)
  rwa [List.getElem_append_left hi] at this
theorem Ok.last {L : List P} {p : P} (h : Ok (L ++ [p])) : 0 ≤ p.1 ∧ p.1 ≤ L.length := by
  have := h L.length (by simp)
  rwa [List.getElem_concat_length rfl] at this
/-- The texts of more phrases: the first ones stay. -/
theorem tx_pre (L M : List P) : tx L <+: tx (L ++ M) := by
  induction M using snoc_ind with
  | h0 => rw [List.append_nil]; exact List.prefix_refl _
  | h1 M p ih =>
    rw [← List.append_assoc, tx_snoc]
    exact ih.trans (List.prefix_append _ _)
theorem getD_pre {α : Type} {A B : List α} (h : A <+: B) {k : Nat} (hk : k < A.length) (d : α) : B.getD k d = A.getD k d := by
  obtain ⟨C, rfl⟩ := h
  rw [List.getD_eq_getElem?_getD, List.getElem?_append_left hk, ← List.getD_eq_getElem?_getD]
theorem tx_at {L : List P} (hL : Ok L) {i : Nat} (h : i < L.length) : (tx L).getD (i + 1) [] = (tx L).getD (L[i]).1.toNat [] ++ [(L[i]).2] := by
  induction L using snoc_ind with
  | h0 => simp at h
  | h1 L p ih =>
    have hlen := tx_len L
    have hpre : tx L <+: tx (L ++ [p]) := tx_pre L [p]
    rw [List.length_append, List.length_singleton] at h
    rcases Nat.lt_or_ge i L.length with h2 | h2
    · have := hL.left i h2
      rw [List.getElem_append_left h2, getD_pre hpre (by omega), getD_pre hpre (by omega)]
      exact ih hL.left h2
    · obtain rfl : i = L.length := by omega
      have := hL.last
      rw [List.getElem_concat_length rfl, getD_pre hpre (k := p.1.toNat) (by omega), tx_snoc, List.getD_eq_getElem?_getD, List.getElem?_append_right (by omega), hlen, Nat.sub_self]
      rfl
/-- The next text is one of them just if the phrase is one. -/
theorem tx_num {L : List P} (hL : Ok L) (hu : (tx L).Nodup) {b : Nat} {c : UInt8} (hb : b ≤ L.length) {j : Nat} (hj : j < (tx L).length) (h : (tx L).getD j [] = (tx L).getD b [] ++ [c]) : 1 ≤ j ∧ L[j - 1]? = some ((b : Int), c) := by
  have hlen := tx_len L
  cases j with
  | zero => rw [tx_zero] at h; exact absurd (congrArg List.length h) (by simp)
  | succ i =>
    have hi : i < L.length := by omega
    refine ⟨by omega, ?_⟩
    rw [Nat.add_sub_cancel, List.getElem?_eq_getElem hi]
    rw [tx_at hL hi] at h
    obtain ⟨h1, h2⟩ := List.append_inj' h rfl
    simp only [List.cons.injEq, and_true] at h2
    have hk := hL i hi
    have e : (L[i]).1.toNat = b := by
      rw [List.getD_eq_getElem?_getD, List.getD_eq_getElem?_getD, List.getElem?_eq_getElem (by omega), List.getElem?_eq_getElem (by omega)] at h1
      exact (List.getElem_inj hu).1 h1
    refine congrArg some (Prod.ext ?_ h2)
    show (L[i]).1 = (b : Int)
    omega
theorem tx_nodup {L : List P} (hL : Ok L) (hn : L.Nodup) : (tx L).Nodup := by
  induction L using snoc_ind with
  | h0 => simp [tx_nil]
  | h1 L p ih =>
    rw [List.nodup_append] at hn
    have hu := ih hL.left hn.1
    have hb := hL.last
    rw [tx_snoc, List.nodup_append]
    refine ⟨hu, by simp, ?_⟩
    intro a ha x hx e
    rw [List.mem_singleton] at hx
    subst hx
    subst e
    obtain ⟨j, hj, e⟩ := List.getElem_of_mem ha
    obtain ⟨h1, h2⟩ := tx_num hL.left hu (b := p.1.toNat) (c := p.2) (by omega) hj (by rw [List.getD_eq_getElem?_getD, List.getElem?_eq_getElem hj]; exact e)
    have hm := List.mem_of_getElem? h2
    rw [show (((p.1.toNat : Nat) : Int), p.2) = p from Prod.ext (by show ((p.1.toNat : Nat) : Int) = p.1; omega) rfl] at hm
    exact hn.2.2 p hm p (by simp) rfl
/-- What stands while a text is told: the phrases, and the number of the text that is under way. -/
structure Good (L : List P) (b : Nat) : Prop where
  ok : Ok L
  nodup : L.Nodup
  le : b ≤ L.length
theorem Good.start : Good [] 0 := ⟨Ok.nil, List.nodup_nil, Nat.le_refl _⟩
theorem Good.uniq {L : List P} {b : Nat} (h : Good L b) : (tx L).Nodup := tx_nodup h.ok h.nodup
def pstep (st : List P × Nat) (c : UInt8) : List P × Nat := if ((st.2 : Int), c) ∈ st.1 then (st.1, st.1.idxOf ((st.2 : Int), c) + 1) else (st.1 ++ [((st.2 : Int), c)], 0)
/-- The phrases of a text, and the number of what is left. -/
def prun (s : List UInt8) : List P × Nat := s.foldl pstep ([], 0)
theorem prun_snoc (s : List UInt8) (c : UInt8) : prun (s ++ [c]) = pstep (prun s) c := by unfold prun; rw [List.foldl_append]; rfl
theorem Good.step {L : List P} {b : Nat} (h : Good L b) (c : UInt8) : Good (pstep (L, b) c).1 (pstep (L, b) c).2 := by
  unfold pstep
  dsimp only
  by_cases hm : ((b : Int), c) ∈ L
  · rw [if_pos hm]
    exact ⟨h.ok, h.nodup, List.idxOf_lt_length_iff.2 hm⟩
  · rw [if_neg hm]
    have hle := h.le
    refine ⟨h.ok.snoc (by show (0 : Int) ≤ (b : Int); omega) (by show (b : Int) ≤ _; omega), ?_, by omega⟩
    rw [List.nodup_append]
    refine ⟨h.nodup, by simp, ?_⟩
    intro a ha x hx e
    rw [List.mem_singleton] at hx
    subst hx; subst e
    exact hm ha
theorem prun_good (s : List UInt8) : Good (prun s).1 (prun s).2 := by
  induction s using snoc_ind with
  | h0 => exact Good.start
  | h1 s c ih => rw [prun_snoc]; exact ih.step c
/-- The text under way, a byte longer, is there just if the phrase is. -/
theorem Good.mem {L : List P} {b : Nat} (h : Good L b) (c : UInt8) : (tx L).getD b [] ++ [c] ∈ tx L ↔ ((b : Int), c) ∈ L := by
  have hlen := tx_len L
  constructor
  · intro hm
    obtain ⟨j, hj, e⟩ := List.getElem_of_mem hm
    obtain ⟨_, h2⟩ := tx_num h.ok h.uniq h.le hj (by rw [List.getD_eq_getElem?_getD, List.getElem?_eq_getElem hj]; exact e)
    exact List.mem_of_getElem? h2
  · intro hm
    obtain ⟨i, hi, e⟩ := List.getElem_of_mem hm
    have := tx_at h.ok hi
    rw [e] at this
    simp only [Int.toNat_natCast] at this
    rw [← this, List.getD_eq_getElem?_getD, List.getElem?_eq_getElem (by omega)]
    exact List.getElem_mem _
theorem Good.at_ {L : List P} {b : Nat} (h : Good L b) {c : UInt8} (hm : ((b : Int), c) ∈ L) : (tx L).getD (L.idxOf ((b : Int), c) + 1) [] = (tx L).getD b [] ++ [c] := by
  have hi := List.idxOf_lt_length_iff.2 hm
  have := tx_at h.ok hi
  rw [List.getElem_idxOf] at this
  simpa using this
theorem idx_at {α : Type} [BEq α] [LawfulBEq α] {T : List α} (hu : T.Nodup) {i : Nat} (hi : i < T.length) (d : α) : T.idxOf (T.getD i d) = i := by
  rw [List.getD_eq_getElem?_getD, List.getElem?_eq_getElem hi]
  have hm : T[i] ∈ T := List.getElem_mem hi
  have := List.getElem_idxOf (List.idxOf_lt_length_iff.2 hm)
  exact (List.getElem_inj hu).1 this
theorem Good.idx {L : List P} {b : Nat} (h : Good L b) : (tx L).idxOf ((tx L).getD b []) = b := by
  have h1 := h.le
  have h2 := tx_len L
  have h3 : b < (tx L).length := by omega
  exact idx_at h.uniq h3 []
/-- The text that is left. -/
def prest (s : List UInt8) : List UInt8 := (tx (prun s).1).getD (prun s).2 []
theorem getD_append_last {T : List (List UInt8)} {x : List UInt8} : (T ++ [x]).flatten = T.flatten ++ x := by simp
theorem prun_join (s : List UInt8) : (tx (prun s).1).flatten ++ prest s = s := by
  induction s using snoc_ind with
  | h0 => rfl
  | h1 s c ih =>
    have hg := prun_good s
    unfold prest at ih ⊢
    rw [prun_snoc]
    obtain ⟨⟨L, b⟩, e⟩ : ∃ q, q = prun s := ⟨_, rfl⟩
    rw [← e] at ih hg ⊢
    dsimp only at ih hg
    unfold pstep
    dsimp only
    by_cases hm : ((b : Int), c) ∈ L
    · rw [if_pos hm]
      dsimp only
      rw [hg.at_ hm, ← List.append_assoc, ih]
    · rw [if_neg hm]
      dsimp only
      rw [tx_zero, tx_snoc, getD_append_last, List.append_nil]
      dsimp only
      rw [Int.toNat_natCast, ← List.append_assoc, ih]
theorem prun_len (s : List UInt8) : (prun s).1.length ≤ s.length := by
  induction s using snoc_ind with
  | h0 => exact Nat.le_refl _
  | h1 s c ih =>
    rw [prun_snoc, List.length_append, List.length_singleton]
    unfold pstep
    split
    · show (prun s).1.length ≤ _; omega
    · rw [List.length_append, List.length_singleton]; omega
theorem prun_pre (a b : List UInt8) : (prun a).1 <+: (prun (a ++ b)).1 := by
  induction b using snoc_ind with
  | h0 => rw [List.append_nil]; exact List.prefix_refl _
  | h1 b c ih =>
    rw [← List.append_assoc, prun_snoc]
    refine ih.trans ?_
    unfold pstep
    split
    · exact List.prefix_refl _
    · exact List.prefix_append _ _
/-- The way back: T the texts so far, out what they are joined; an error's number and nothing, or 0 and the text. -/
def gj (T : List (List UInt8)) (out : List UInt8) : List P → Nat × List UInt8
  | [] => (0, out)
  | (b, c) :: r =>
    if b < 0 ∨ (T.length : Int) ≤ b then (1, [])
    else if 200 < (out ++ (T.getD b.toNat [] ++ [c])).length then (2, [])
    else gj (T ++ [T.getD b.toNat [] ++ [c]]) (out ++ (T.getD b.toNat [] ++ [c])) r
theorem gj_arg {T : List (List UInt8)} {out : List UInt8} {b : Int} {c : UInt8} {r : List P} (h : b < 0 ∨ (T.length : Int) ≤ b) : gj T out ((b, c) :: r) = (1, []) := by
  unfold gj; rw [if_pos h]
theorem gj_large {T : List (List UInt8)} {out : List UInt8} {b : Nat} {c : UInt8} {r : List P} (h : b < T.length) (h2 : 200 < (out ++ (T.getD b [] ++ [c])).length) : gj T out (((b : Int), c) :: r) = (2, []) := by
  unfold gj; rw [if_neg (by omega), Int.toNat_natCast, if_pos h2]
theorem gj_next {T : List (List UInt8)} {out : List UInt8} {b : Nat} {c : UInt8} {r : List P} (h : b < T.length) (h2 : (out ++ (T.getD b [] ++ [c])).length ≤ 200) : gj T out (((b : Int), c) :: r) = gj (T ++ [T.getD b [] ++ [c]]) (out ++ (T.getD b [] ++ [c])) r := by
  conv => lhs; unfold gj
  rw [if_neg (by omega), Int.toNat_natCast, if_neg (by omega)]
theorem gj_len : ∀ (l : List P) (T : List (List UInt8)) (out : List UInt8), out.length ≤ 200 → (gj T out l).2.length ≤ 200
  | [], _, out, h => h
  | (b, c) :: r, T, out, h => by
    unfold gj
    split
    · simp
    · split
      · simp
      · rename_i h2
        exact gj_len r _ _ (by omega)
/-- What Get answers. -/
def getP (l : List P) (rest : List UInt8) : Nat × List UInt8 :=
  if 200 < rest.length then (2, [])
  else if 200 < l.length then (2, [])
  else if (gj [[]] [] l).1 = 0 then (if 200 < ((gj [[]] [] l).2 ++ rest).length then (2, []) else (0, (gj [[]] [] l).2 ++ rest))
  else ((gj [[]] [] l).1, [])
theorem gj_ok : ∀ (M L : List P), Ok (L ++ M) → (tx (L ++ M)).flatten.length ≤ 200 → gj (tx L) (tx L).flatten M = (0, (tx (L ++ M)).flatten)
  | [], L, _, _ => by rw [List.append_nil]; rfl
  | p :: M, L, hok, hl => by
    have e : L ++ p :: M = (L ++ [p]) ++ M := by rw [List.append_assoc]; rfl
    rw [e] at hok hl ⊢
    have hb := hok.left.last
    obtain ⟨b, hbn⟩ : ∃ b : Nat, p.1 = (b : Int) := ⟨p.1.toNat, by omega⟩
    have hp : p = ((b : Int), p.2) := Prod.ext hbn rfl
    have hs : tx (L ++ [p]) = tx L ++ [(tx L).getD b [] ++ [p.2]] := by rw [tx_snoc, hbn, Int.toNat_natCast]
    have hle : (tx (L ++ [p])).flatten.length ≤ (tx ((L ++ [p]) ++ M)).flatten.length := by
      obtain ⟨C, hC⟩ := tx_pre (L ++ [p]) M
      rw [← hC, List.flatten_append, List.length_append]; omega
    have ih := gj_ok M (L ++ [p]) hok hl
    rw [hs, getD_append_last] at ih hle
    rw [hp, gj_next (by rw [tx_len]; omega) (by omega), ← hp]
    exact ih
theorem gj_pre {L : List P} (h : Ok L) (hl : (tx L).flatten.length ≤ 200) : gj [[]] [] L = (0, (tx L).flatten) := by
  have := gj_ok L [] (by simpa using h) (by simpa using hl)
  simpa [tx_nil] using this
theorem flat_le {L : List P} {k : Nat} : (tx (L.take k)).flatten.length ≤ (tx L).flatten.length := by
  obtain ⟨C, hC⟩ := tx_pre (L.take k) (L.drop k)
  rw [List.take_append_drop] at hC
  rw [← hC, List.flatten_append, List.length_append]; omega
theorem Ok.take {L : List P} (h : Ok L) (k : Nat) : Ok (L.take k) := by
  have : Ok (L.take k ++ L.drop k) := by rw [List.take_append_drop]; exact h
  exact this.left
theorem prun_flat {s : List UInt8} (hs : s.length ≤ 200) : (tx (prun s).1).flatten.length ≤ 200 := by
  have := congrArg List.length (prun_join s)
  rw [List.length_append] at this
  omega
/-- The way back of the first k phrases of a text. -/
theorem getP_take {s : List UInt8} (hs : s.length ≤ 200) (k : Nat) : getP ((prun s).1.take k) [] = (0, (tx ((prun s).1.take k)).flatten) := by
  have hg := prun_good s
  have h1 := prun_flat hs
  have h2 := prun_len s
  have h3 := flat_le (L := (prun s).1) (k := k)
  have e := gj_pre (hg.ok.take k) (by omega)
  unfold getP
  rw [e, if_neg (by simp), if_neg (by rw [List.length_take]; omega), if_pos rfl]
  dsimp only
  rw [List.append_nil, if_neg (by omega)]
theorem getP_back {s : List UInt8} (hs : s.length ≤ 200) : getP (prun s).1 (prest s) = (0, s) := by
  have hg := prun_good s
  have h1 := prun_flat hs
  have h2 := prun_len s
  have h4 := prun_join s
  have h5 := congrArg List.length h4
  rw [List.length_append] at h5
  have e := gj_pre hg.ok h1
  unfold getP
  rw [e, if_neg (by omega), if_neg (by omega), if_pos rfl]
  dsimp only
  rw [h4, if_neg (by omega)]
theorem take_flat {L : List P} (h : Ok L) {k : Nat} (hk : k < L.length) : (tx (L.take (k + 1))).flatten = (tx (L.take k)).flatten ++ (tx L).getD (k + 1) [] := by
  have e : L.take (k + 1) = L.take k ++ [L[k]] := by rw [List.take_add_one, List.getElem?_eq_getElem hk]; rfl
  have hp : tx (L.take (k + 1)) <+: tx L := by
    have := tx_pre (L.take (k + 1)) (L.drop (k + 1))
    rwa [List.take_append_drop] at this
  have hl : (L.take k).length = k := by rw [List.length_take]; omega
  have hkk := h k hk
  rw [getD_pre hp (by rw [tx_len, List.length_take]; omega), e, tx_snoc, getD_append_last]
  congr 1
  generalize (tx (List.take k L)).getD (L[k]).1.toNat [] ++ [(L[k]).2] = y
  rw [List.getD_eq_getElem?_getD, List.getElem?_append_right (by rw [tx_len]; omega), tx_len, hl, Nat.sub_self]
  rfl
/-- The texts of the first k phrases, without that of 0. -/
def first (L : List P) (k : Nat) : List (List UInt8) := ((tx L).drop 1).take k
theorem first_succ {L : List P} {k : Nat} (hk : k < L.length) : first L (k + 1) = first L k ++ [(tx L).getD (k + 1) []] := by
  unfold first
  have hlen := tx_len L
  rw [List.take_add_one, List.getElem?_drop, Nat.add_comm 1 k, List.getElem?_eq_getElem (by omega), List.getD_eq_getElem?_getD, List.getElem?_eq_getElem (by omega)]
  rfl
theorem first_len {L : List P} {k : Nat} (hk : k ≤ L.length) : (first L k).length = k := by
  unfold first
  rw [List.length_take, List.length_drop, tx_len]; omega
theorem first_new {L : List P} {b k : Nat} (h : Good L b) (hk : k < L.length) : (tx L).getD (k + 1) [] ∉ first L k := by
  have hlen := tx_len L
  intro hm
  have hu := h.uniq
  unfold first at hm
  obtain ⟨j, hj, e⟩ := List.getElem_of_mem hm
  have hj2 := hj
  rw [List.length_take, List.length_drop] at hj2
  rw [List.getElem_take, List.getElem_drop, List.getD_eq_getElem?_getD, List.getElem?_eq_getElem (by omega)] at e
  have := (List.getElem_inj hu).1 e
  omega
theorem first_all {L : List P} {b : Nat} (h : Good L b) (hne : (tx L).getD b [] ≠ []) : (tx L).getD b [] ∈ first L L.length := by
  have hlen := tx_len L
  have hle := h.le
  cases b with
  | zero => exact absurd (tx_zero L) hne
  | succ b =>
    unfold first
    rw [List.mem_iff_getElem]
    refine ⟨b, by rw [List.length_take, List.length_drop]; omega, ?_⟩
    rw [List.getElem_take, List.getElem_drop, List.getD_eq_getElem?_getD, List.getElem?_eq_getElem (by omega)]
    simp [Nat.add_comm]
/-- Of one byte alone: phrases of 1, 2, .. bytes. -/
def chain (x : UInt8) (k : Nat) : List P := (List.range k).map fun i : Nat => ((i : Int), x)
theorem chain_succ (x : UInt8) (k : Nat) : chain x (k + 1) = chain x k ++ [((k : Int), x)] := by unfold chain; rw [List.range_succ, List.map_append]; rfl
theorem chain_len (x : UInt8) (k : Nat) : (chain x k).length = k := by unfold chain; simp
theorem chain_mem {x : UInt8} {k b : Nat} : ((b : Int), x) ∈ chain x k ↔ b < k := by
  unfold chain
  simp only [List.mem_map, List.mem_range, Prod.mk.injEq, and_true]
  constructor
  · rintro ⟨i, h, e⟩; omega
  · intro h; exact ⟨b, h, rfl⟩
theorem chain_idx {x : UInt8} {k b : Nat} (h : b < k) : (chain x k).idxOf ((b : Int), x) = b := by
  have hn : (chain x k).Nodup := by
    unfold chain
    rw [List.nodup_iff_pairwise_ne, List.pairwise_map]
    refine List.pairwise_lt_range.imp ?_
    intro a b hab e
    simp only [Prod.mk.injEq, and_true] at e
    omega
  have hl : b < (chain x k).length := by rw [chain_len]; exact h
  have e : (chain x k).getD b (0, 0) = ((b : Int), x) := by
    rw [List.getD_eq_getElem?_getD, List.getElem?_eq_getElem hl]
    simp [chain]
  rw [← e]
  exact idx_at hn hl _
theorem prun_one (x : UInt8) : ∀ n : Nat, ∃ k b, prun (List.replicate n x) = (chain x k, b) ∧ b ≤ k ∧ k * (k + 1) + 2 * b = 2 * n
  | 0 => ⟨0, 0, rfl, by omega, rfl⟩
  | n + 1 => by
    obtain ⟨k, b, e, hb, hn⟩ := prun_one x n
    rw [List.replicate_succ', prun_snoc, e]
    unfold pstep
    dsimp only
    by_cases h : b < k
    · rw [if_pos (chain_mem.2 h), chain_idx h]
      exact ⟨k, b + 1, rfl, h, by omega⟩
    · obtain rfl : b = k := by omega
      rw [if_neg (fun hm => h (chain_mem.1 hm)), ← chain_succ]
      refine ⟨b + 1, 0, rfl, by omega, ?_⟩
      simp only [Nat.add_mul, Nat.mul_add] at hn ⊢
      omega
theorem chain_tx (x : UInt8) : ∀ k, tx (chain x k) = (List.range (k + 1)).map fun i => List.replicate i x
  | 0 => rfl
  | k + 1 => by
    rw [chain_succ, tx_snoc, chain_tx x k, List.range_succ (n := k + 1), List.map_append]
    congr 1
    dsimp only
    rw [Int.toNat_natCast, List.getD_eq_getElem?_getD, List.getElem?_map, List.getElem?_range (by omega)]
    simp [List.replicate_succ']
theorem few {x : UInt8} {n : Nat} : (prest (List.replicate n x)).length ≤ (prun (List.replicate n x)).1.length ∧ (prun (List.replicate n x)).1.length * ((prun (List.replicate n x)).1.length + 1) + 2 * (prest (List.replicate n x)).length = 2 * n := by
  obtain ⟨k, b, e, hb, hn⟩ := prun_one x n
  unfold prest
  rw [e]
  dsimp only
  rw [chain_len, chain_tx, List.getD_eq_getElem?_getD, List.getElem?_map, List.getElem?_range (by omega)]
  simp only [Option.map_some, Option.getD_some, List.length_replicate]
  exact ⟨hb, hn⟩
end Go.Proofs.Ytpifmahnlapdbaa.Ph
