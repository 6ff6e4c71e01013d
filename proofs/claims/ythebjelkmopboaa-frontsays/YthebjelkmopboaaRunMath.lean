
/-
Runs as lists: the runs of a text, the text of runs, and the way back.
-/
import Derived.Test.YthebjelkmopboaaFrMath
namespace Go.Proofs.Ythebjelkmopboaa.Rm
open Fm (snoc_ind)

/-- A run: a byte, how often. -/
abbrev R := UInt8 × Int
/-- One more byte; the runs stand from the last one on. -/
def step (L : List R) (c : UInt8) : List R :=
  match L with
  | [] => [(c, 1)]
  | (b, n) :: t => if b = c then (b, n + 1) :: t else (c, 1) :: (b, n) :: t
def rr (s : List UInt8) : List R := s.foldl step []
theorem rr_snoc (p : List UInt8) (c : UInt8) : rr (p ++ [c]) = step (rr p) c := by unfold rr; rw [List.foldl_append]; rfl
/-- The runs of s. -/
def runs (s : List UInt8) : List R := (rr s).reverse
theorem runs_nil : runs [] = [] := rfl
/-- What Whole answers from here on: the byte ahead, the text so far. -/
def wl (prev : Option UInt8) (text : List UInt8) : List R → Nat × List UInt8
  | [] => (0, text)
  | (b, n) :: t => if n < 1 then (1, []) else if prev = some b then (3, []) else if 200 - (text.length : Int) < n then (2, []) else wl (some b) (text ++ List.replicate n.toNat b) t
theorem wl_cons (prev : Option UInt8) (text : List UInt8) (b : UInt8) (n : Int) (t : List R) : wl prev text ((b, n) :: t) = if n < 1 then (1, []) else if prev = some b then (3, []) else if 200 - (text.length : Int) < n then (2, []) else wl (some b) (text ++ List.replicate n.toNat b) t := rfl
/-- What Whole answers. -/
def whole (L : List R) : Nat × List UInt8 := wl none [] L
def lastB (L : List R) (prev : Option UInt8) : Option UInt8 := L.foldl (fun _ x => some x.1) prev
theorem lastB_snoc (L : List R) (x : R) (prev : Option UInt8) : lastB (L ++ [x]) prev = some x.1 := by unfold lastB; rw [List.foldl_append]; rfl
theorem wl_app (L M : List R) : ∀ (prev : Option UInt8) (text u : List UInt8), wl prev text L = (0, u) → wl prev text (L ++ M) = wl (lastB L prev) u M := by
  induction L with
  | nil =>
    intro prev text u h
    injection h with _ h
    subst h
    rfl
  | cons a t ih =>
    intro prev text u h
    obtain ⟨b, n⟩ := a
    rw [List.cons_append, wl_cons]
    rw [wl_cons] at h
    split at h
    · cases h
    · split at h
      · cases h
      · split at h
        · cases h
        · rw [if_neg ‹_›, if_neg ‹_›, if_neg ‹_›]
          exact ih _ _ _ h
theorem wl_snoc {L : List R} {u : List UInt8} (h : whole L = (0, u)) {b : UInt8} {n : Int} (h1 : 1 ≤ n) (h2 : lastB L none ≠ some b) (h3 : n ≤ 200 - (u.length : Int)) : whole (L ++ [(b, n)]) = (0, u ++ List.replicate n.toNat b) := by
  unfold whole at h ⊢
  rw [wl_app L _ none [] u h]
  unfold wl
  rw [if_neg (by omega), if_neg h2, if_neg (by omega)]
  rfl
theorem wl_fst : ∀ (L : List R) (prev : Option UInt8) (text : List UInt8), (wl prev text L).1 ≠ 0 → (wl prev text L).2 = [] := by
  intro L
  induction L with
  | nil => intro p t h; exact absurd rfl h
  | cons a t ih =>
    intro p x h
    obtain ⟨b, n⟩ := a
    unfold wl at h ⊢
    split
    · rfl
    · split
      · rfl
      · split
        · rfl
        · rw [if_neg ‹_›, if_neg ‹_›, if_neg ‹_›] at h
          exact ih _ _ h
theorem wl_len : ∀ (L : List R) (prev : Option UInt8) (text : List UInt8), text.length ≤ 200 → (wl prev text L).2.length ≤ 200 := by
  intro L
  induction L with
  | nil => intro p t h; exact h
  | cons a t ih =>
    intro p x h
    obtain ⟨b, n⟩ := a
    unfold wl
    split
    · simp
    · split
      · simp
      · split
        · simp
        · refine ih _ _ ?_
          rw [List.length_append, List.length_replicate]
          omega
theorem whole_len (L : List R) : (whole L).2.length ≤ 200 := wl_len L none [] (by simp)
theorem whole_fst {L : List R} (h : (whole L).1 ≠ 0) : (whole L).2 = [] := wl_fst L none [] h
theorem lastB_rev (L : List R) : lastB L.reverse none = L.head?.map (·.1) := by
  cases L with
  | nil => rfl
  | cons a t => rw [List.reverse_cons, lastB_snoc]; rfl
/-- A text's runs, and its last byte. -/
theorem rr_head (p : List UInt8) (c : UInt8) : (rr (p ++ [c])).head?.map (·.1) = some c := by
  rw [rr_snoc]
  unfold step
  split
  · rfl
  · split
    · rename_i h; subst h; rfl
    · rfl
/-- Runs, then Whole. -/
theorem whole_rr (s : List UInt8) : s.length ≤ 200 → whole (rr s).reverse = (0, s) ∧ (∀ b n t, rr s = (b, n) :: t → ∃ q, whole t.reverse = (0, q) ∧ 1 ≤ n ∧ lastB t.reverse none ≠ some b ∧ s = q ++ List.replicate n.toNat b) := by
  induction s using snoc_ind with
  | h0 => intro _; exact ⟨rfl, fun b n t h => by cases h⟩
  | h1 p c ih =>
    intro hl
    rw [List.length_append, List.length_singleton] at hl
    obtain ⟨h1, h2⟩ := ih (by omega)
    rw [rr_snoc]
    have fresh : lastB (rr p).reverse none ≠ some c → whole ((c, 1) :: rr p).reverse = (0, p ++ [c]) ∧ (∀ b n t, (c, 1) :: rr p = (b, n) :: t → ∃ q, whole t.reverse = (0, q) ∧ 1 ≤ n ∧ lastB t.reverse none ≠ some b ∧ p ++ [c] = q ++ List.replicate n.toNat b) := by
      intro hne
      constructor
      · rw [List.reverse_cons]
        exact wl_snoc h1 (by omega) hne (by omega)
      · intro b n t h
        injection h with e1 e2
        injection e1 with e3 e4
        subst e2; subst e3; subst e4
        exact ⟨p, h1, by omega, hne, rfl⟩
    unfold step
    split
    · rename_i h0
      rw [h0] at fresh
      exact fresh (by intro h; cases h)
    · rename_i b n t h0
      split
      · rename_i hbc
        subst hbc
        obtain ⟨q, g1, g2, g3, g4⟩ := h2 b n t h0
        have g5 : p ++ [b] = q ++ List.replicate (n + 1).toNat b := by
          rw [show (n + 1).toNat = n.toNat + 1 by omega, List.replicate_succ', g4, List.append_assoc]
        refine ⟨?_, fun b' n' t' h => ?_⟩
        · rw [List.reverse_cons, g5]
          refine wl_snoc g1 (by omega) g3 ?_
          have := congrArg List.length g4
          rw [List.length_append, List.length_replicate] at this
          omega
        · injection h with e1 e2
          injection e1 with e3 e4
          subst e2; subst e3; subst e4
          exact ⟨q, g1, by omega, g3, g5⟩
      · rename_i hbc
        rw [h0] at fresh
        refine fresh ?_
        rw [lastB_rev]
        intro h
        exact hbc (by simpa using h)
theorem whole_runs {s : List UInt8} (h : s.length ≤ 200) : whole (runs s) = (0, s) := (whole_rr s h).1
/-- What stands in a row that is a text. -/
theorem wl_all : ∀ (L : List R) (prev : Option UInt8) (text u : List UInt8), wl prev text L = (0, u) → u = text ++ L.flatMap (fun x => List.replicate x.2.toNat x.1) ∧ (∀ k (h : k < L.length), 1 ≤ (L[k]).2 ∧ (∀ j (hj : j < L.length), k = j + 1 → (L[j]).1 ≠ (L[k]).1)) ∧ (∀ h : 0 < L.length, prev ≠ some (L[0]).1) := by
  intro L
  induction L with
  | nil =>
    intro prev text u h
    injection h with _ h
    subst h
    exact ⟨by simp, fun k h => by simp at h, fun h => by simp at h⟩
  | cons a t ih =>
    intro prev text u h
    obtain ⟨b, n⟩ := a
    unfold wl at h
    split at h
    · cases h
    · split at h
      · cases h
      · split at h
        · cases h
        · rename_i p1 p2 p3
          obtain ⟨g1, g2, g3⟩ := ih _ _ _ h
          refine ⟨by rw [g1, List.flatMap_cons, List.append_assoc], ?_, fun _ => p2⟩
          intro k hk
          cases k with
          | zero => exact ⟨by show 1 ≤ n; omega, fun j hj e => by omega⟩
          | succ k =>
            have hk' : k < t.length := by simpa using hk
            refine ⟨(g2 k hk').1, fun j hj e => ?_⟩
            cases j with
            | zero =>
              obtain rfl : k = 0 := by omega
              have := g3 hk'
              intro e'
              exact this (by rw [show (t[0]).1 = b from e'.symm])
            | succ j => exact (g2 k hk').2 j (by simpa using hj) (by omega)
/-- The bytes of a row of runs. -/
def ex (L : List R) : List UInt8 := L.flatMap (fun x => List.replicate x.2.toNat x.1)
theorem ex_cons (x : R) (t : List R) : ex (x :: t) = List.replicate x.2.toNat x.1 ++ ex t := rfl
theorem runs_ex {s : List UInt8} (h : s.length ≤ 200) : ex (runs s) = s := by
  have := (wl_all _ none [] s (whole_runs h)).1
  rw [List.nil_append] at this
  exact this.symm
theorem runs_pos {s : List UInt8} (h : s.length ≤ 200) {k : Nat} (hk : k < (runs s).length) : 1 ≤ ((runs s)[k]).2 := ((wl_all _ none [] s (whole_runs h)).2.1 k hk).1
theorem runs_un {s : List UInt8} (h : s.length ≤ 200) {k : Nat} (hk : k + 1 < (runs s).length) : ((runs s)[k]).1 ≠ ((runs s)[k + 1]).1 := ((wl_all _ none [] s (whole_runs h)).2.1 (k + 1) hk).2 k (by omega) rfl
/-- A run of bytes more. -/
theorem step_more (L : List R) (b : UInt8) : ∀ n : Nat, 0 < n → L.head?.map (·.1) ≠ some b → (List.replicate n b).foldl step L = (b, (n : Int)) :: L := by
  intro n
  have later : ∀ (m : Nat) (k : Int) (t : List R), (List.replicate m b).foldl step ((b, k) :: t) = (b, k + m) :: t := by
    intro m
    induction m with
    | zero => intro k t; simp
    | succ m ih =>
      intro k t
      rw [List.replicate_succ, List.foldl_cons]
      have : step ((b, k) :: t) b = (b, k + 1) :: t := by unfold step; simp
      rw [this, ih, show k + 1 + (m : Int) = k + ((m + 1 : Nat) : Int) by omega]
  intro hn hne
  obtain ⟨m, rfl⟩ : ∃ m, n = m + 1 := ⟨n - 1, by omega⟩
  rw [List.replicate_succ, List.foldl_cons]
  have : step L b = (b, 1) :: L := by
    unfold step
    split
    · rfl
    · rename_i c k t
      rw [if_neg]
      intro e
      exact hne (by rw [e]; rfl)
  rw [this, later, show (1 : Int) + (m : Int) = ((m + 1 : Nat) : Int) by omega]
theorem wl_back : ∀ (L : List R) (prev : Option UInt8) (text u : List UInt8), (rr text).head?.map (·.1) = prev → wl prev text L = (0, u) → rr u = L.reverse ++ rr text := by
  intro L
  induction L with
  | nil =>
    intro prev text u _ h
    injection h with _ h
    subst h
    rfl
  | cons a t ih =>
    intro prev text u hp h
    obtain ⟨b, n⟩ := a
    unfold wl at h
    split at h
    · cases h
    · split at h
      · cases h
      · split at h
        · cases h
        · rename_i p1 p2 p3
          have hr : rr (text ++ List.replicate n.toNat b) = (b, n) :: rr text := by
            unfold rr
            rw [List.foldl_append]
            have := step_more (rr text) b n.toNat (by omega) (by rw [hp]; exact p2)
            rw [show ((n.toNat : Nat) : Int) = n by omega] at this
            exact this
          have := ih _ _ _ (by rw [hr]; rfl) h
          rw [this, hr, List.reverse_cons, List.append_assoc]
          rfl
/-- Whole, then Runs. -/
theorem runs_whole {L : List R} {u : List UInt8} (h : whole L = (0, u)) : runs u = L := by
  have := wl_back L none [] u rfl h
  unfold runs
  rw [this]
  simp [rr]

/-! ### how many are as the one ahead -/
def rep (s : List UInt8) : Nat → Nat
  | 0 => 0
  | i + 1 => rep s i + if 0 < i ∧ s.getD i 0 = s.getD (i - 1) 0 then 1 else 0
theorem rep_runs {s : List UInt8} : ∀ i, i ≤ s.length → rep s i + (rr (s.take i)).length = i := by
  intro i
  induction i with
  | zero => intro _; rfl
  | succ i ih =>
    intro hi
    have h := ih (by omega)
    rw [Fm.take_snoc 0 (show i < s.length by omega), rr_snoc]
    unfold rep
    by_cases h0 : i = 0
    · subst h0
      rfl
    · obtain ⟨j, rfl⟩ : ∃ j, i = j + 1 := ⟨i - 1, by omega⟩
      have hh := rr_head (s.take j) (s.getD j 0)
      rw [← Fm.take_snoc 0 (show j < s.length by omega)] at hh
      rw [Nat.add_sub_cancel]
      rcases e : rr (s.take (j + 1)) with _ | ⟨⟨b, n⟩, t⟩
      · rw [e] at hh
        cases hh
      · rw [e] at hh h
        unfold step
        dsimp only
        have hb : b = s.getD j 0 := by simpa using hh
        rw [List.length_cons] at h
        by_cases h2 : b = s.getD (j + 1) 0
        · rw [if_pos h2, if_pos ⟨by omega, by rw [← h2, hb]⟩, List.length_cons]
          omega
        · rw [if_neg h2, if_neg (fun h3 => h2 (by rw [h3.2, hb])), List.length_cons, List.length_cons]
          omega
/-- What the runs have more than one each. -/
def more (L : List R) : Nat → Int
  | 0 => 0
  | k + 1 => more L k + ((L.getD k (0, 0)).2 - 1)
theorem more_ex (L : List R) (h : ∀ x ∈ L, 1 ≤ x.2) : ∀ k, k ≤ L.length → more L k + k = ((ex (L.take k)).length : Int) := by
  intro k
  induction k with
  | zero => intro _; rfl
  | succ k ih =>
    intro hk
    have := ih (by omega)
    rw [Fm.take_snoc (0, 0) (show k < L.length by omega)]
    unfold ex at this ⊢
    rw [List.flatMap_append, List.length_append]
    have h1 : 1 ≤ (L.getD k (0, 0)).2 := by rw [Fm.getD_lt _ (show k < L.length by omega)]; exact h _ (List.getElem_mem _)
    simp only [List.flatMap_cons, List.flatMap_nil, List.append_nil, List.length_replicate]
    unfold more
    omega
theorem more_len (L : List R) (h : ∀ x ∈ L, 1 ≤ x.2) : more L L.length + L.length = ((ex L).length : Int) := by
  have := more_ex L h L.length (Nat.le_refl _)
  rwa [List.take_length] at this
theorem more_le (L : List R) (h : ∀ x ∈ L, 1 ≤ x.2) {k : Nat} (hk : k ≤ L.length) : 0 ≤ more L k ∧ more L k ≤ ((ex L).length : Int) := by
  have h1 := more_ex L h k hk
  have h2 : (ex (L.take k)).length ≤ (ex L).length := by
    have e : ex L = ex (L.take k) ++ ex (L.drop k) := by
      unfold ex
      rw [← List.flatMap_append, List.take_append_drop]
    rw [e, List.length_append]
    omega
  have h3 : 0 ≤ more L k := by
    induction k with
    | zero => exact Int.le_refl _
    | succ k ih =>
      have := ih (by omega) (more_ex L h k (by omega))  (by
        have e : ex L = ex (L.take k) ++ ex (L.drop k) := by
          unfold ex
          rw [← List.flatMap_append, List.take_append_drop]
        rw [e, List.length_append]
        omega)
      have h1 : 1 ≤ (L.getD k (0, 0)).2 := by rw [Fm.getD_lt _ (show k < L.length by omega)]; exact h _ (List.getElem_mem _)
      unfold more
      omega
  omega
theorem runs_pos_mem {s : List UInt8} (h : s.length ≤ 200) : ∀ x ∈ runs s, 1 ≤ x.2 := by
  intro x hx
  obtain ⟨k, hk, rfl⟩ := List.getElem_of_mem hx
  exact runs_pos h hk
/-- As many bytes are as the one ahead as the runs have more than one each. -/
theorem rep_more {s : List UInt8} (h : s.length ≤ 200) : (rep s s.length : Int) = more (runs s) (runs s).length := by
  have h1 := rep_runs (s := s) s.length (Nat.le_refl _)
  rw [List.take_length] at h1
  have h2 := more_len _ (runs_pos_mem h)
  rw [runs_ex h] at h2
  have h3 : (runs s).length = (rr s).length := by unfold runs; rw [List.length_reverse]
  omega
theorem rep_len {s : List UInt8} : ((runs s).length : Int) = (s.length : Int) - (rep s s.length : Int) := by
  have h1 := rep_runs (s := s) s.length (Nat.le_refl _)
  rw [List.take_length] at h1
  have h3 : (runs s).length = (rr s).length := by unfold runs; rw [List.length_reverse]
  omega
theorem rep_le (s : List UInt8) (i : Nat) : rep s i ≤ i := by
  induction i with
  | zero => exact Nat.le_refl _
  | succ i ih =>
    unfold rep
    split <;> omega
theorem runs_len (s : List UInt8) : (runs s).length ≤ s.length := by
  have h1 := rep_runs (s := s) s.length (Nat.le_refl _)
  rw [List.take_length] at h1
  unfold runs
  rw [List.length_reverse]
  omega
theorem runs_new {p : List UInt8} {c : UInt8} (h : (rr p).head?.map (·.1) ≠ some c) : runs (p ++ [c]) = runs p ++ [(c, 1)] := by
  unfold runs
  rw [rr_snoc]
  unfold step
  split
  · rename_i e; rw [e]; rfl
  · rename_i b n t e
    rw [if_neg, e, List.reverse_cons (a := (c, (1 : Int)))]
    intro e2
    rw [e] at h
    exact h (by rw [e2]; rfl)
theorem runs_same {p : List UInt8} {c : UInt8} (h : (rr p).head?.map (·.1) = some c) : ∃ T n, runs p = T ++ [(c, n)] ∧ runs (p ++ [c]) = T ++ [(c, n + 1)] := by
  rcases e : rr p with _ | ⟨⟨b, n⟩, t⟩
  · rw [e] at h; cases h
  · rw [e] at h
    have hb : b = c := by simpa using h
    subst hb
    refine ⟨t.reverse, n, by unfold runs; rw [e, List.reverse_cons], ?_⟩
    unfold runs
    rw [rr_snoc, e]
    unfold step
    simp
theorem rr_bound (p : List UInt8) : ∀ x ∈ rr p, 1 ≤ x.2 ∧ x.2 ≤ p.length := by
  induction p using snoc_ind with
  | h0 => intro x hx; cases hx
  | h1 p c ih =>
    intro x hx
    rw [rr_snoc] at hx
    rw [List.length_append, List.length_singleton]
    have ih' : ∀ y ∈ rr p, 1 ≤ y.2 ∧ y.2 ≤ ((p.length + 1 : Nat) : Int) := fun y hy => by have := ih y hy; omega
    unfold step at hx
    split at hx
    · rcases List.mem_singleton.1 hx with rfl
      exact ⟨by show (1 : Int) ≤ 1; omega, by show (1 : Int) ≤ _; omega⟩
    · rename_i b n t e
      rw [e] at ih ih'
      split at hx
      · rcases List.mem_cons.1 hx with rfl | hx
        · have := ih (b, n) (List.mem_cons_self ..)
          dsimp only at this ⊢
          omega
        · exact ih' x (List.mem_cons_of_mem _ hx)
      · rcases List.mem_cons.1 hx with rfl | hx
        · exact ⟨by show (1 : Int) ≤ 1; omega, by show (1 : Int) ≤ _; omega⟩
        · exact ih' x hx
theorem runs_bound (p : List UInt8) : ∀ x ∈ runs p, 1 ≤ x.2 ∧ x.2 ≤ p.length := by
  intro x hx
  unfold runs at hx
  exact rr_bound p x (List.mem_reverse.1 hx)
theorem head_nil (c : UInt8) : (rr []).head?.map (·.1) ≠ some c := by intro h; cases h
theorem head_take {s : List UInt8} {j : Nat} (h : j < s.length) : (rr (s.take (j + 1))).head?.map (·.1) = some (s.getD j 0) := by
  rw [Fm.take_snoc 0 h]
  exact rr_head _ _
end Go.Proofs.Ythebjelkmopboaa.Rm
