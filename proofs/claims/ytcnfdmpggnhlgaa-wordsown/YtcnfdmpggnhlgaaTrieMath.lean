/-
Plain mathematics of lists of patterns: sorted lists, the lexicographic order, and what the trie's answers are.
-/
import Derived.Test.YtcnfdmpggnhlgaaAlong
import Derived.Test.YtcnfdmpggnhlgaaTrieCheck
namespace Go.Proofs.Ytcnfdmpggnhlgaa
open Go.RowKit

/-- Two strictly sorted lists of the same elements are the same. -/
theorem sorted_unique {α : Type} (r : α → α → Prop) (asym : ∀ a b, r a b → ¬ r b a) : ∀ l1 l2 : List α, l1.Pairwise r → l2.Pairwise r → (∀ x, x ∈ l1 ↔ x ∈ l2) → l1 = l2
  | [], [], _, _, _ => rfl
  | [], b :: s, _, _, h => absurd ((h b).2 (List.mem_cons_self ..)) (by simp)
  | a :: t, [], _, _, h => absurd ((h a).1 (List.mem_cons_self ..)) (by simp)
  | a :: t, b :: s, h1, h2, h => by
    rw [List.pairwise_cons] at h1 h2
    have e : a = b := by
      have ha := (h a).1 (List.mem_cons_self ..)
      have hb := (h b).2 (List.mem_cons_self ..)
      rcases List.mem_cons.1 ha with e | ha
      · exact e
      · rcases List.mem_cons.1 hb with e | hb
        · exact e.symm
        · exact absurd (h2.1 a ha) (asym _ _ (h1.1 b hb))
    subst e
    congr 1
    refine sorted_unique r asym t s h1.2 h2.2 fun x => ?_
    constructor
    · intro hx
      rcases List.mem_cons.1 ((h x).1 (List.mem_cons_of_mem _ hx)) with e | hx'
      · subst e; exact absurd (h1.1 x hx) (asym _ _ (h1.1 x hx))
      · exact hx'
    · intro hx
      rcases List.mem_cons.1 ((h x).2 (List.mem_cons_of_mem _ hx)) with e | hx'
      · subst e; exact absurd (h2.1 x hx) (asym _ _ (h2.1 x hx))
      · exact hx'

theorem lex_self : ∀ (p : (List UInt8)) (c : UInt8) (t : (List UInt8)), p < p ++ c :: t
  | [], _, _ => List.nil_lt_cons _ _
  | _ :: p, c, t => List.cons_lt_cons_iff.2 (.inr ⟨rfl, lex_self p c t⟩)
theorem lex_split : ∀ (p : (List UInt8)) {c d : UInt8} (t u : (List UInt8)), c < d → p ++ c :: t < p ++ d :: u
  | [], _, _, _, _, h => List.cons_lt_cons_iff.2 (.inl h)
  | _ :: p, _, _, t, u, h => List.cons_lt_cons_iff.2 (.inr ⟨rfl, lex_split p t u h⟩)
theorem lex_asym (a b : (List UInt8)) (h : a < b) : ¬ b < a := fun h' => List.lt_irrefl a (List.lt_trans h h')

/-- The patterns are as P10 asks. -/
structure Good (g : Nat → ByteArray) (n : Nat) : Prop where
  few : n ≤ 10
  pos : ∀ k, k < n → 0 < (g k).size
  short : ∀ k, k < n → (g k).size ≤ 20
  apart : ∀ j k, j < k → k < n → g j ≠ g k
theorem good_of {g : Nat → ByteArray} {n : Nat} (h : patsErr g n = 0) : Good g n := by
  obtain ⟨h1, h2⟩ := patsErr_zero h
  have h3 : ∀ k, k < n → (g k).size ≠ 0 ∧ ¬ 20 < (g k).size ∧ ¬ dup g k = true := by
    intro k hk
    have := h2 k hk
    unfold patErr at this
    refine ⟨fun e => ?_, fun e => ?_, fun e => ?_⟩
    · rw [if_pos e] at this; omega
    · by_cases e0 : (g k).size = 0
      · omega
      · rw [if_neg e0, if_pos e] at this; omega
    · by_cases e0 : (g k).size = 0
      · rw [if_pos e0] at this; omega
      · by_cases e1 : 20 < (g k).size
        · rw [if_neg e0, if_pos e1] at this; omega
        · rw [if_neg e0, if_neg e1, if_pos e] at this; omega
  exact ⟨h1, fun k hk => by have := (h3 k hk).1; omega, fun k hk => by have := (h3 k hk).2.1; omega, fun j k hj hk e => (h3 k hk).2.2 (dup_iff.2 ⟨j, hj, e⟩)⟩

theorem wd_inj {a b : ByteArray} (h : wd a = wd b) : a = b := by
  unfold wd at h
  cases a; cases b
  simp at h
  rw [h]

section
variable {g : Nat → ByteArray} {n : Nat}

theorem Good.inj (h : Good g n) {j k : Nat} (hj : j < n) (hk : k < n) (e : wd (g j) = wd (g k)) : j = k := by
  rcases Nat.lt_trichotomy j k with h1 | h1 | h1
  · exact absurd (wd_inj e) (h.apart j k h1 hk)
  · exact h1
  · exact absurd (wd_inj e).symm (h.apart k j h1 hj)
theorem Good.idx (h : Good g n) {k : Nat} (hk : k < n) : idxW g n (wd (g k)) = (k : Int) := by
  have key : ∀ m, m ≤ n → k < m → idxW g m (wd (g k)) = (k : Int) := by
    intro m
    induction m with
    | zero => intro _ h0; omega
    | succ m ih =>
      intro hm hkm
      unfold idxW
      by_cases e : k = m
      · rw [e, upd_at]
      · rw [upd_ne _ _ (fun e' => e (h.inj hk (by omega) e'))]
        exact ih (by omega) (by omega)
  exact key n (Nat.le_refl _) hk
theorem Good.some (h : Good g n) {q : (List UInt8)} (hq : idxW g n q ≠ -1) : ∃ k, k < n ∧ q = wd (g k) ∧ idxW g n q = (k : Int) := by
  by_cases e : ∃ k, k < n ∧ q = wd (g k)
  · obtain ⟨k, hk, rfl⟩ := e
    exact ⟨k, hk, rfl, h.idx hk⟩
  · exact absurd (idxW_out g n q (fun k hk e' => e ⟨k, hk, e'⟩)) hq
theorem Good.len (h : Good g n) {q : (List UInt8)} (hq : preD g n q) : q.length ≤ 20 := by
  rcases hq with rfl | ⟨k, hk, hp⟩
  · simp
  · have := hp.length_le
    rw [wd_len] at this
    have := h.short k hk
    omega

/-- The patterns with which l begins, by their indices. -/
def begins (g : Nat → ByteArray) (n : Nat) (l : (List UInt8)) : List Nat := (List.range n).filter fun k => decide (wd (g k) <+: l)
theorem mem_begins {l : (List UInt8)} {k : Nat} : k ∈ begins g n l ↔ k < n ∧ wd (g k) <+: l := by
  unfold begins
  simp

theorem Good.mem_along (h : Good g n) (l : (List UInt8)) (x : Int) : x ∈ alongL (idxW g n) l l.length ↔ ∃ k, k < n ∧ x = (k : Int) ∧ wd (g k) <+: l := by
  unfold alongL
  rw [List.mem_filter, List.mem_map]
  constructor
  · rintro ⟨⟨t, ht, rfl⟩, hx⟩
    have hx' : idxW g n (l.take (t + 1)) ≠ -1 := by simpa using hx
    obtain ⟨k, hk, e1, e2⟩ := h.some hx'
    exact ⟨k, hk, e2, by rw [← e1]; exact List.take_prefix _ _⟩
  · rintro ⟨k, hk, rfl, hp⟩
    have hl : (wd (g k)).length = (g k).size := wd_len _
    have h0 := h.pos k hk
    have h1 := hp.length_le
    have e : l.take ((g k).size - 1 + 1) = wd (g k) := by
      rw [show (g k).size - 1 + 1 = (wd (g k)).length by omega]
      exact (List.prefix_iff_eq_take.1 hp).symm
    refine ⟨⟨(g k).size - 1, by rw [List.mem_range]; omega, by rw [e, h.idx hk]⟩, ?_⟩
    simp
theorem Good.nodup_along (h : Good g n) (l : (List UInt8)) : (alongL (idxW g n) l l.length).Pairwise (· ≠ ·) := by
  unfold alongL
  rw [List.pairwise_filter, List.pairwise_map]
  refine List.Pairwise.imp_of_mem ?_ List.pairwise_lt_range
  intro a b ha hb hab h1 h2 e
  rw [List.mem_range] at ha hb
  have h1' : idxW g n (l.take (a + 1)) ≠ -1 := by simpa using h1
  have h2' : idxW g n (l.take (b + 1)) ≠ -1 := by simpa using h2
  obtain ⟨j, hj, e1, e2⟩ := h.some h1'
  obtain ⟨k, hk, e3, e4⟩ := h.some h2'
  rw [e2, e4] at e
  obtain rfl : j = k := by omega
  have := congrArg List.length (e1.trans e3.symm)
  rw [List.length_take, List.length_take] at this
  omega
theorem le_trans_i (a b c : Int) (h1 : decide (a ≤ b) = true) (h2 : decide (b ≤ c) = true) : decide (a ≤ c) = true := by
  simp at *; omega
theorem Good.sorted_along (h : Good g n) (l : (List UInt8)) : (alongL (idxW g n) l l.length).mergeSort (fun x y => decide (x ≤ y)) = (begins g n l).map fun k : Nat => (k : Int) := by
  have hp := List.mergeSort_perm (alongL (idxW g n) l l.length) (fun x y => decide (x ≤ y))
  have hs := List.pairwise_mergeSort (le := fun x y : Int => decide (x ≤ y)) le_trans_i (fun a b => by simp; omega) (alongL (idxW g n) l l.length)
  have hd : ((alongL (idxW g n) l l.length).mergeSort (fun x y => decide (x ≤ y))).Pairwise (· ≠ ·) := (hp.pairwise_iff (fun h => Ne.symm h)).2 (h.nodup_along l)
  refine sorted_unique (· < ·) (fun a b h1 h2 => by omega) _ _ ?_ ?_ ?_
  · refine (hs.and hd).imp ?_
    rintro a b ⟨h1, h2⟩
    have : a ≤ b := of_decide_eq_true h1
    omega
  · rw [List.pairwise_map]
    unfold begins
    rw [List.pairwise_filter]
    exact List.pairwise_lt_range.imp (fun h _ _ => by omega)
  · intro x
    rw [hp.mem_iff, h.mem_along, List.mem_map]
    constructor
    · rintro ⟨k, hk, rfl, hpre⟩
      exact ⟨k, mem_begins.2 ⟨hk, hpre⟩, rfl⟩
    · rintro ⟨k, hk, rfl⟩
      obtain ⟨h1, h2⟩ := mem_begins.1 hk
      exact ⟨k, h1, rfl, h2⟩
end

section
variable {w : World} {B : Nat} {D : (List UInt8) → Prop} {W : (List UInt8) → Int} {ad : (List UInt8) → Nat} {ch : (List UInt8) → (List UInt8)} {bl : (List UInt8) → Value}

theorem TrieIn.mem_all (h : TrieIn w B D W ad ch bl) : ∀ (m : Nat) (p : (List UInt8)), D p → ∀ q, q ∈ allQ W ch m p ↔ p <+: q ∧ D q ∧ W q ≠ -1 ∧ q.length < p.length + m
  | 0, p, _, q => by
    constructor
    · intro h; cases h
    · rintro ⟨h1, _, _, h2⟩
      have := h1.length_le
      omega
  | m + 1, p, hp, q => by
    rw [allQ_succ, List.mem_append, List.mem_flatMap]
    constructor
    · rintro (h1 | ⟨c, hc, h1⟩)
      · by_cases e : W p = -1
        · rw [if_pos e] at h1; cases h1
        · rw [if_neg e] at h1
          obtain rfl : q = p := by simpa using h1
          exact ⟨List.prefix_refl _, hp, e, by omega⟩
      · obtain ⟨h2, h3, h4, h5⟩ := (h.mem_all m (p ++ [c]) ((h.kids p c hp).1 hc) q).1 h1
        exact ⟨(List.prefix_append p [c]).trans h2, h3, h4, by simp at h5; omega⟩
    · rintro ⟨⟨t, rfl⟩, h2, h3, h4⟩
      cases t with
      | nil =>
        left
        rw [List.append_nil] at h3
        rw [if_neg h3]
        simp
      | cons c t =>
        right
        have hpre : p ++ [c] <+: p ++ c :: t := ⟨t, by simp⟩
        have hd : D (p ++ [c]) := h.pre h2 hpre
        refine ⟨c, (h.kids p c hp).2 hd, (h.mem_all m (p ++ [c]) hd _).2 ⟨hpre, h2, h3, ?_⟩⟩
        simp at h4 ⊢
        omega
theorem TrieIn.rise_all (h : TrieIn w B D W ad ch bl) : ∀ (m : Nat) (p : (List UInt8)), D p → (allQ W ch m p).Pairwise (· < ·)
  | 0, _, _ => List.Pairwise.nil
  | m + 1, p, hp => by
    rw [allQ_succ, List.pairwise_append]
    refine ⟨?_, ?_, ?_⟩
    · split
      · exact List.Pairwise.nil
      · exact List.pairwise_singleton _ _
    · rw [List.pairwise_flatMap]
      refine ⟨fun c hc => h.rise_all m _ ((h.kids p c hp).1 hc), ?_⟩
      refine List.Pairwise.imp_of_mem ?_ (h.rise p hp)
      intro a b ha hb hab x hx y hy
      obtain ⟨⟨t, rfl⟩, _⟩ := (h.mem_all m (p ++ [a]) ((h.kids p a hp).1 ha) x).1 hx
      obtain ⟨⟨u, rfl⟩, _⟩ := (h.mem_all m (p ++ [b]) ((h.kids p b hp).1 hb) y).1 hy
      have := lex_split p t u hab
      simpa using this
    · intro a ha b hb
      rw [List.mem_flatMap] at hb
      obtain ⟨c, hc, hb⟩ := hb
      obtain ⟨⟨t, rfl⟩, _⟩ := (h.mem_all m (p ++ [c]) ((h.kids p c hp).1 hc) b).1 hb
      obtain rfl : a = p := by
        by_cases e : W p = -1
        · rw [if_pos e] at ha; cases ha
        · rw [if_neg e] at ha; simpa using ha
      have := lex_self a c t
      simpa using this
end

/-- The words of the patterns that begin with f, rising. -/
structure FrontQ (g : Nat → ByteArray) (n : Nat) (f : (List UInt8)) (Q : List (List UInt8)) : Prop where
  rise : Q.Pairwise (· < ·)
  mem : ∀ q, q ∈ Q ↔ ∃ k, k < n ∧ q = wd (g k) ∧ f <+: q
theorem FrontQ.unique {g : Nat → ByteArray} {n : Nat} {f : (List UInt8)} {Q R : List (List UInt8)} (h : FrontQ g n f Q) (k : FrontQ g n f R) : Q = R :=
  sorted_unique (· < ·) lex_asym Q R h.rise k.rise fun x => by rw [h.mem, k.mem]
theorem FrontQ.len {g : Nat → ByteArray} {n : Nat} {f : (List UInt8)} {Q : List (List UInt8)} (h : FrontQ g n f Q) : Q.length ≤ n := by
  have hn : Q.Nodup := by
    unfold List.Nodup
    refine h.rise.imp ?_
    intro a b hab e
    rw [e] at hab
    exact List.lt_irrefl b hab
  have hs : ∀ q ∈ Q, q ∈ (List.range n).map fun k => wd (g k) := by
    intro q hq
    obtain ⟨k, hk, rfl, _⟩ := (h.mem q).1 hq
    exact List.mem_map.2 ⟨k, List.mem_range.2 hk, rfl⟩
  have := hn.length_le_of_subset hs
  simpa using this
theorem Good.fronts {g : Nat → ByteArray} {n : Nat} (hg : Good g n) {w : World} {B : Nat} {ad : (List UInt8) → Nat} {ch : (List UInt8) → (List UInt8)} {bl : (List UInt8) → Value} (h : TrieIn w B (preD g n) (idxW g n) ad ch bl) {f : (List UInt8)} (hf : preD g n f) (m : Nat) (hm : f.length + m = 21) :
    FrontQ g n f (allQ (idxW g n) ch m f) := by
  refine ⟨h.rise_all m f hf, fun q => ?_⟩
  rw [h.mem_all m f hf]
  constructor
  · rintro ⟨h1, _, h3, _⟩
    obtain ⟨k, hk, e, _⟩ := hg.some h3
    exact ⟨k, hk, e, h1⟩
  · rintro ⟨k, hk, rfl, h1⟩
    refine ⟨h1, .inr ⟨k, hk, List.prefix_refl _⟩, by rw [hg.idx hk]; omega, ?_⟩
    rw [wd_len]
    have := hg.short k hk
    omega
theorem FrontQ.none_ {g : Nat → ByteArray} {n : Nat} {f : (List UInt8)} (hf : ¬ preD g n f) : FrontQ g n f [] := by
  refine ⟨List.Pairwise.nil, fun q => ?_⟩
  constructor
  · intro h; cases h
  · rintro ⟨k, hk, rfl, h1⟩
    exact absurd (.inr ⟨k, hk, h1⟩) hf
end Go.Proofs.Ytcnfdmpggnhlgaa
