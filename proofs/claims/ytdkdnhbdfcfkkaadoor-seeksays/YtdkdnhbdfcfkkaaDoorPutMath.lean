/-
Plain mathematics on replacing: which places are taken, from the left and none over another; what the text is then. No program is named here.
-/
namespace Go.Proofs.YtdkdnhbdfcfkkaaDoor
namespace Wm
variable {α : Type}

/-- The places that are taken, from e on, each of m values. -/
def greedy (m : Nat) : Nat → List Nat → List Nat
  | _, [] => []
  | e, a :: l => if a < e then greedy m e l else a :: greedy m (a + m) l
/-- The text from e on, B in the place of m values at each place. -/
def putT (S B : List α) (m : Nat) : Nat → List Nat → List α
  | e, [] => S.drop e
  | e, a :: l => (S.drop e).take (a - e) ++ B ++ putT S B m (a + m) l
/-- P stands at a. -/
def Here (S P : List α) (a : Nat) : Prop := a + P.length ≤ S.length ∧ (S.drop a).take P.length = P
/-- P stands at all these places, none over another, from e on. -/
def Ch (S P : List α) : Nat → List Nat → Prop
  | e, [] => e ≤ S.length
  | e, a :: l => e ≤ a ∧ Here S P a ∧ Ch S P (a + P.length) l

theorem greedy_ch {S P : List α} : ∀ {l : List Nat} {e : Nat}, e ≤ S.length → (∀ x, x ∈ l → Here S P x) → Ch S P e (greedy P.length e l) := by
  intro l
  induction l with
  | nil => intro e he _; exact he
  | cons a l ih =>
    intro e he h
    rw [greedy]
    have hl : ∀ x, x ∈ l → Here S P x := fun x hx => h x (List.mem_cons_of_mem _ hx)
    split
    · exact ih he hl
    · have ha := h a (List.mem_cons_self ..)
      exact ⟨by omega, ha, ih ha.1 hl⟩
theorem Ch.le {S P : List α} : ∀ {C : List Nat} {e : Nat}, Ch S P e C → e ≤ S.length := by
  intro C
  cases C with
  | nil => intro e h; exact h
  | cons a l => intro e h; have h1 := h.1; have h2 := h.2.1.1; omega
theorem cut_at {S : List α} {e a : Nat} (h : e ≤ a) : S.drop e = (S.drop e).take (a - e) ++ S.drop a := by
  have := List.take_append_drop (a - e) (S.drop e)
  rw [List.drop_drop, show e + (a - e) = a by omega] at this
  exact this.symm
theorem here_cut {S P : List α} {a : Nat} (h : Here S P a) : S.drop a = P ++ S.drop (a + P.length) := by
  have := List.take_append_drop P.length (S.drop a)
  rw [List.drop_drop, h.2] at this
  exact this.symm
/-- In its own place nothing changes. -/
theorem put_self {S P : List α} : ∀ {C : List Nat} {e : Nat}, Ch S P e C → putT S P P.length e C = S.drop e := by
  intro C
  induction C with
  | nil => intro e _; rfl
  | cons a l ih =>
    intro e h
    rw [putT, ih h.2.2, List.append_assoc, ← here_cut h.2.1, ← cut_at h.1]
theorem put_len {S P B : List α} : ∀ {C : List Nat} {e : Nat}, Ch S P e C → (putT S B P.length e C).length + C.length * P.length + e = S.length + C.length * B.length := by
  intro C
  induction C with
  | nil => intro e h; have := h.le; rw [putT, List.length_drop]; simp; omega
  | cons a l ih =>
    intro e h
    have h1 := ih h.2.2
    have h2 := h.1
    have h3 := h.2.1.1
    rw [putT, List.length_append, List.length_append, List.length_take, List.length_drop, List.length_cons, Nat.succ_mul, Nat.succ_mul]
    omega
/-- How many are taken. -/
theorem ch_count {S P : List α} : ∀ {C : List Nat} {e : Nat}, Ch S P e C → C.length * P.length + e ≤ S.length := by
  intro C
  induction C with
  | nil => intro e h; have := h.le; simp; omega
  | cons a l ih =>
    intro e h
    have h1 := ih h.2.2
    have h2 := h.1
    rw [List.length_cons, Nat.succ_mul]
    omega

section
variable [DecidableEq α]
/-- P in the place of b. -/
def sub1 (b : α) (P : List α) (U : List α) : List α := U.flatMap fun c => if c = b then P else [c]
theorem sub1_app (b : α) (P U V : List α) : sub1 b P (U ++ V) = sub1 b P U ++ sub1 b P V := by unfold sub1; rw [List.flatMap_append]
theorem sub1_none {b : α} {P U : List α} (h : ∀ x, x ∈ U → x ≠ b) : sub1 b P U = U := by
  induction U with
  | nil => rfl
  | cons x U ih =>
    have h1 := h x (List.mem_cons_self ..)
    have h2 := ih fun y hy => h y (List.mem_cons_of_mem _ hy)
    unfold sub1 at h2 ⊢
    rw [List.flatMap_cons, if_neg h1, h2]
    rfl
theorem sub1_one (b : α) (P : List α) : sub1 b P [b] = P := by unfold sub1; simp
theorem cnt_none {b : α} {U : List α} (h : ∀ x, x ∈ U → x ≠ b) : U.count b = 0 := List.count_eq_zero.2 fun hb => h b hb rfl
/-- b, which is nowhere, put, and taken back. -/
theorem put_back {S P : List α} {b : α} (hb : ∀ x, x ∈ S → x ≠ b) : ∀ {C : List Nat} {e : Nat}, Ch S P e C → sub1 b P (putT S [b] P.length e C) = S.drop e ∧ (putT S [b] P.length e C).count b = C.length := by
  have hd : ∀ e x, x ∈ S.drop e → x ≠ b := fun e x hx => hb x (List.mem_of_mem_drop hx)
  intro C
  induction C with
  | nil => intro e _; exact ⟨sub1_none (hd e), cnt_none (hd e)⟩
  | cons a l ih =>
    intro e h
    obtain ⟨h1, h2⟩ := ih h.2.2
    have ht : ∀ x, x ∈ (S.drop e).take (a - e) → x ≠ b := fun x hx => hd e x (List.mem_of_mem_take hx)
    rw [putT]
    refine ⟨?_, ?_⟩
    · rw [sub1_app, sub1_app, h1, sub1_one, sub1_none ht, List.append_assoc, ← here_cut h.2.1, ← cut_at h.1]
    · rw [List.count_append, List.count_append, h2, cnt_none ht, List.length_cons]
      simp; omega
/-- One value replaced: all places are taken. -/
theorem put_one {U P : List α} {b : α} : ∀ {l : List Nat} {e : Nat}, l.Pairwise (· < ·) → (∀ x, x ∈ l → U[x]? = some b) → (∀ x, e ≤ x → U[x]? = some b → x ∈ l) → (∀ x, x ∈ l → e ≤ x) →
    putT U P 1 e (greedy 1 e l) = sub1 b P (U.drop e) ∧ (greedy 1 e l).length = (U.drop e).count b := by
  intro l
  induction l with
  | nil =>
    intro e _ _ hall _
    have hn : ∀ x, x ∈ U.drop e → x ≠ b := by
      intro x hx e1
      obtain ⟨i, hi, hx2⟩ := List.getElem_of_mem hx
      rw [List.length_drop] at hi
      rw [List.getElem_drop] at hx2
      have := hall (e + i) (by omega) (by rw [List.getElem?_eq_getElem (by omega), hx2, e1])
      simp at this
    refine ⟨?_, ?_⟩
    · rw [greedy, putT, sub1_none hn]
    · rw [greedy, cnt_none hn]; rfl
  | cons a l ih =>
    intro e hs hin hall hge
    have ha := hin a (List.mem_cons_self ..)
    have hae := hge a (List.mem_cons_self ..)
    rw [List.pairwise_cons] at hs
    obtain ⟨h1, h2⟩ := ih (e := a + 1) hs.2 (fun x hx => hin x (List.mem_cons_of_mem _ hx)) (fun x hx hb => by
      have := hall x (by omega) hb
      rw [List.mem_cons] at this
      rcases this with rfl | h
      · omega
      · exact h) (fun x hx => by have := hs.1 x hx; omega)
    obtain ⟨hal, hab⟩ := List.getElem?_eq_some_iff.1 ha
    have hn : ∀ x, x ∈ (U.drop e).take (a - e) → x ≠ b := by
      intro x hx e1
      obtain ⟨i, hi, hx2⟩ := List.getElem_of_mem hx
      rw [List.length_take, List.length_drop] at hi
      rw [List.getElem_take, List.getElem_drop] at hx2
      have := hall (e + i) (by omega) (by rw [List.getElem?_eq_getElem (by omega), hx2, e1])
      rw [List.mem_cons] at this
      rcases this with h | h
      · omega
      · have := hs.1 _ h; omega
    have hcut : U.drop e = (U.drop e).take (a - e) ++ ([b] ++ U.drop (a + 1)) := by
      rw [List.singleton_append, ← hab, ← List.drop_eq_getElem_cons hal]
      exact cut_at hae
    rw [greedy, if_neg (by omega), putT, h1, List.length_cons, h2]
    refine ⟨?_, ?_⟩
    · rw [hcut, sub1_app, sub1_app, sub1_one, sub1_none hn, ← hcut, List.append_assoc]
    · rw [hcut, List.count_append, List.count_append, cnt_none hn]
      simp; omega
end
end Wm
end Go.Proofs.YtdkdnhbdfcfkkaaDoor
