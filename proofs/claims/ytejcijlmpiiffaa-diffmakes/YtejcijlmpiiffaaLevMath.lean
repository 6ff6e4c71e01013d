
/-
The edit distance of two lists of bytes (lv): the least price of a way from the one to the other; what is known of that number; and at how many places two lists are unlike (hm). No program is named here.
-/
import Derived.Test.YtejcijlmpiiffaaSameMath
namespace Go.Proofs.Ytejcijlmpiiffaa.Lev

/-- A way from a to b with n insertions, deletions and replacements. -/
inductive Ed : List UInt8 → List UInt8 → Nat → Prop
  | nil : Ed [] [] 0
  | del {a b n} (x : UInt8) (h : Ed a b n) : Ed (x :: a) b (n + 1)
  | ins {a b n} (y : UInt8) (h : Ed a b n) : Ed a (y :: b) (n + 1)
  | rep {a b n} (x y : UInt8) (h : Ed a b n) : Ed (x :: a) (y :: b) (n + 1)
  | keep {a b n} (x : UInt8) (h : Ed a b n) : Ed (x :: a) (x :: b) n

theorem Ed.symm {a b : List UInt8} {n : Nat} (h : Ed a b n) : Ed b a n := by
  induction h with
  | nil => exact .nil
  | del x _ ih => exact .ins x ih
  | ins y _ ih => exact .del y ih
  | rep x y _ ih => exact .rep y x ih
  | keep x _ ih => exact .keep x ih
theorem Ed.refl : ∀ a : List UInt8, Ed a a 0
  | [] => .nil
  | x :: a => .keep x (Ed.refl a)
theorem Ed.app {a b c d : List UInt8} {n m : Nat} (h : Ed a b n) (k : Ed c d m) : Ed (a ++ c) (b ++ d) (n + m) := by
  induction h with
  | nil => rw [Nat.zero_add]; exact k
  | del x _ ih => rw [Nat.add_right_comm]; exact .del x ih
  | ins y _ ih => rw [Nat.add_right_comm]; exact .ins y ih
  | rep x y _ ih => rw [Nat.add_right_comm]; exact .rep x y ih
  | keep x _ ih => exact .keep x ih
theorem Ed.rev {a b : List UInt8} {n : Nat} (h : Ed a b n) : Ed a.reverse b.reverse n := by
  induction h with
  | nil => exact .nil
  | del x _ ih => rw [List.reverse_cons]; simpa using ih.app (.del x .nil)
  | ins y _ ih => rw [List.reverse_cons]; simpa using ih.app (.ins y .nil)
  | rep x y _ ih => rw [List.reverse_cons, List.reverse_cons]; exact ih.app (.rep x y .nil)
  | keep x _ ih => rw [List.reverse_cons, List.reverse_cons]; exact ih.app (.keep x .nil)
theorem Ed.to_nil : ∀ a : List UInt8, Ed a [] a.length
  | [] => .nil
  | x :: a => .del x (Ed.to_nil a)
theorem Ed.of_nil (b : List UInt8) : Ed [] b b.length := (Ed.to_nil b).symm
theorem Ed.nil_len {b : List UInt8} {n : Nat} (h : Ed [] b n) : n = b.length := by
  generalize ha : ([] : List UInt8) = a at h
  induction h with
  | nil => rfl
  | del x _ _ => cases ha
  | ins y _ ih => rw [ih ha]; rfl
  | rep x y _ _ => cases ha
  | keep x _ _ => cases ha
theorem Ed.len {a b : List UInt8} {n : Nat} (h : Ed a b n) : a.length ≤ b.length + n ∧ b.length ≤ a.length + n := by
  induction h with
  | nil => simp
  | del x _ ih => simp only [List.length_cons]; omega
  | ins y _ ih => simp only [List.length_cons]; omega
  | rep x y _ ih => simp only [List.length_cons]; omega
  | keep x _ ih => simp only [List.length_cons]; omega
theorem Ed.trans {b c : List UInt8} {m : Nat} (k : Ed b c m) : ∀ {a : List UInt8} {n : Nat}, Ed a b n → ∃ l, l ≤ n + m ∧ Ed a c l := by
  induction k with
  | nil => exact fun h => ⟨_, by omega, h⟩
  | @del b c m x k ih =>
    intro a n h
    generalize hb : x :: b = b' at h
    induction h with
    | nil => cases hb
    | del z _ ih2 =>
      obtain ⟨l, h1, h2⟩ := ih2 hb
      exact ⟨l + 1, by omega, .del z h2⟩
    | ins y h1 _ =>
      injection hb with e1 e2
      subst e2
      obtain ⟨l, h2, h3⟩ := ih h1
      exact ⟨l, by omega, h3⟩
    | rep z y h1 _ =>
      injection hb with e1 e2
      subst e2
      obtain ⟨l, h2, h3⟩ := ih h1
      exact ⟨l + 1, by omega, .del z h3⟩
    | keep z h1 _ =>
      injection hb with e1 e2
      subst e2
      obtain ⟨l, h2, h3⟩ := ih h1
      exact ⟨l + 1, by omega, .del z h3⟩
  | @ins b c m y k ih =>
    intro a n h
    obtain ⟨l, h2, h3⟩ := ih h
    exact ⟨l + 1, by omega, .ins y h3⟩
  | @rep b c m x u k ih =>
    intro a n h
    generalize hb : x :: b = b' at h
    induction h with
    | nil => cases hb
    | del z _ ih2 =>
      obtain ⟨l, h1, h2⟩ := ih2 hb
      exact ⟨l + 1, by omega, .del z h2⟩
    | ins y h1 _ =>
      injection hb with e1 e2
      subst e2
      obtain ⟨l, h2, h3⟩ := ih h1
      exact ⟨l + 1, by omega, .ins u h3⟩
    | rep z y h1 _ =>
      injection hb with e1 e2
      subst e2
      obtain ⟨l, h2, h3⟩ := ih h1
      exact ⟨l + 1, by omega, .rep z u h3⟩
    | keep z h1 _ =>
      injection hb with e1 e2
      subst e2
      obtain ⟨l, h2, h3⟩ := ih h1
      exact ⟨l + 1, by omega, .rep z u h3⟩
  | @keep b c m x k ih =>
    intro a n h
    generalize hb : x :: b = b' at h
    induction h with
    | nil => cases hb
    | del z _ ih2 =>
      obtain ⟨l, h1, h2⟩ := ih2 hb
      exact ⟨l + 1, by omega, .del z h2⟩
    | ins y h1 _ =>
      injection hb with e1 e2
      subst e1 e2
      obtain ⟨l, h2, h3⟩ := ih h1
      exact ⟨l + 1, by omega, .ins x h3⟩
    | rep z y h1 _ =>
      injection hb with e1 e2
      subst e1 e2
      obtain ⟨l, h2, h3⟩ := ih h1
      exact ⟨l + 1, by omega, .rep z x h3⟩
    | keep z h1 _ =>
      injection hb with e1 e2
      subst e1 e2
      obtain ⟨l, h2, h3⟩ := ih h1
      exact ⟨l, by omega, .keep x h3⟩
theorem Ed.zero {a b : List UInt8} {n : Nat} (h : Ed a b n) (hn : n = 0) : a = b := by
  induction h with
  | nil => rfl
  | del x _ _ => omega
  | ins y _ _ => omega
  | rep x y _ _ => omega
  | keep x _ ih => rw [ih hn]
/-- A way takes what lies ahead to what lies ahead. -/
theorem Ed.split {p u b : List UInt8} {n : Nat} (h : Ed (p ++ u) b n) : ∃ b1 b2 n1 n2, b = b1 ++ b2 ∧ Ed p b1 n1 ∧ Ed u b2 n2 ∧ n1 + n2 = n := by
  generalize ha : p ++ u = a at h
  induction h generalizing p with
  | nil =>
    obtain ⟨rfl, rfl⟩ := List.append_eq_nil_iff.1 ha
    exact ⟨[], [], 0, 0, rfl, .nil, .nil, rfl⟩
  | @del a b n x h ih =>
    cases p with
    | nil => exact ⟨[], b, 0, n + 1, rfl, .nil, (by rw [show u = x :: a from ha]; exact .del x h), by omega⟩
    | cons z p =>
      injection ha with e1 e2
      obtain ⟨b1, b2, n1, n2, h1, h2, h3, h4⟩ := ih e2
      exact ⟨b1, b2, n1 + 1, n2, h1, .del z h2, h3, by omega⟩
  | @ins a b n y h ih =>
    obtain ⟨b1, b2, n1, n2, h1, h2, h3, h4⟩ := ih ha
    exact ⟨y :: b1, b2, n1 + 1, n2, by rw [h1]; rfl, .ins y h2, h3, by omega⟩
  | @rep a b n x y h ih =>
    cases p with
    | nil => exact ⟨[], y :: b, 0, n + 1, rfl, .nil, (by rw [show u = x :: a from ha]; exact .rep x y h), by omega⟩
    | cons z p =>
      injection ha with e1 e2
      obtain ⟨b1, b2, n1, n2, h1, h2, h3, h4⟩ := ih e2
      exact ⟨y :: b1, b2, n1 + 1, n2, by rw [h1]; rfl, .rep z y h2, h3, by omega⟩
  | @keep a b n x h ih =>
    cases p with
    | nil => exact ⟨[], x :: b, 0, n, rfl, .nil, (by rw [show u = x :: a from ha]; exact .keep x h), by omega⟩
    | cons z p =>
      injection ha with e1 e2
      obtain ⟨b1, b2, n1, n2, h1, h2, h3, h4⟩ := ih e2
      exact ⟨x :: b1, b2, n1, n2, by rw [h1]; rfl, (by rw [e1]; exact .keep x h2), h3, by omega⟩
/-- What is kept is common. -/
theorem Ed.common {a b : List UInt8} {n : Nat} (h : Ed a b n) : ∃ c, List.Sublist c a ∧ List.Sublist c b ∧ a.length ≤ c.length + n ∧ b.length ≤ c.length + n := by
  induction h with
  | nil => exact ⟨[], List.nil_sublist _, List.nil_sublist _, by simp, by simp⟩
  | del x _ ih =>
    obtain ⟨c, h1, h2, h3, h4⟩ := ih
    exact ⟨c, h1.cons x, h2, by simp only [List.length_cons]; omega, by omega⟩
  | ins y _ ih =>
    obtain ⟨c, h1, h2, h3, h4⟩ := ih
    exact ⟨c, h1, h2.cons y, by omega, by simp only [List.length_cons]; omega⟩
  | rep x y _ ih =>
    obtain ⟨c, h1, h2, h3, h4⟩ := ih
    exact ⟨c, h1.cons x, h2.cons y, by simp only [List.length_cons]; omega, by simp only [List.length_cons]; omega⟩
  | keep x _ ih =>
    obtain ⟨c, h1, h2, h3, h4⟩ := ih
    exact ⟨x :: c, h1.cons_cons x, h2.cons_cons x, by simp only [List.length_cons]; omega, by simp only [List.length_cons]; omega⟩
theorem Ed.of_sub {c a : List UInt8} (h : List.Sublist c a) : Ed c a (a.length - c.length) := by
  induction h with
  | slnil => exact .nil
  | @cons c a x h ih =>
    have := h.length_le
    have e : (x :: a).length - c.length = (a.length - c.length) + 1 := by simp only [List.length_cons]; omega
    rw [e]
    exact .ins x ih
  | @cons_cons c a x h ih =>
    have e : (x :: a).length - (x :: c).length = a.length - c.length := by simp only [List.length_cons]; omega
    rw [e]
    exact .keep x ih

/-- A row of lv: the distance of a word that begins with x from b. -/
def lvRow (x : UInt8) (f : List UInt8 → Nat) (n : Nat) : List UInt8 → Nat
  | [] => n
  | y :: b => min (f b + if x = y then 0 else 1) (min (f (y :: b) + 1) (lvRow x f n b + 1))
/-- The edit distance. -/
def lv : List UInt8 → List UInt8 → Nat
  | [], b => b.length
  | x :: a, b => lvRow x (lv a) (a.length + 1) b
theorem lv_nil (b : List UInt8) : lv [] b = b.length := rfl
theorem lv_nil' (a : List UInt8) : lv a [] = a.length := by cases a <;> rfl
theorem lv_cons (x y : UInt8) (a b : List UInt8) : lv (x :: a) (y :: b) = min (lv a b + if x = y then 0 else 1) (min (lv a (y :: b) + 1) (lv (x :: a) b + 1)) := rfl
theorem lv_ex : ∀ a b : List UInt8, Ed a b (lv a b)
  | [], b => Ed.of_nil b
  | x :: a, [] => Ed.to_nil (x :: a)
  | x :: a, y :: b => by
    rw [lv_cons]
    have h1 := lv_ex a b
    have h2 := lv_ex a (y :: b)
    have h3 := lv_ex (x :: a) b
    rcases Nat.le_total (lv a b + if x = y then 0 else 1) (min (lv a (y :: b) + 1) (lv (x :: a) b + 1)) with h | h
    · rw [Nat.min_eq_left h]
      by_cases e : x = y
      · rw [if_pos e]; subst e; exact .keep x h1
      · rw [if_neg e]; exact .rep x y h1
    · rw [Nat.min_eq_right h]
      rcases Nat.le_total (lv a (y :: b) + 1) (lv (x :: a) b + 1) with h | h
      · rw [Nat.min_eq_left h]; exact .del x h2
      · rw [Nat.min_eq_right h]; exact .ins y h3
  termination_by a b => a.length + b.length
theorem lv_le {a b : List UInt8} {n : Nat} (h : Ed a b n) : lv a b ≤ n := by
  induction h with
  | nil => exact Nat.le_refl _
  | @del a b n x h ih =>
    cases b with
    | nil => rw [lv_nil']; rw [lv_nil'] at ih; simp only [List.length_cons]; omega
    | cons y b => rw [lv_cons]; omega
  | @ins a b n y h ih =>
    cases a with
    | nil => rw [lv_nil]; rw [lv_nil] at ih; simp only [List.length_cons]; omega
    | cons x a => rw [lv_cons]; omega
  | rep x y h ih =>
    rw [lv_cons]
    split <;> omega
  | keep x h ih =>
    rw [lv_cons, if_pos rfl]; omega
theorem lv_self (a : List UInt8) : lv a a = 0 := Nat.le_zero.1 (lv_le (Ed.refl a))
theorem lv_zero {a b : List UInt8} : lv a b = 0 ↔ a = b := ⟨fun h => (lv_ex a b).zero h, fun h => by rw [h, lv_self]⟩
theorem lv_comm (a b : List UInt8) : lv a b = lv b a := Nat.le_antisymm (lv_le (lv_ex b a).symm) (lv_le (lv_ex a b).symm)
theorem lv_tri (a b c : List UInt8) : lv a c ≤ lv a b + lv b c := by
  obtain ⟨l, h1, h2⟩ := (lv_ex b c).trans (lv_ex a b)
  exact Nat.le_trans (lv_le h2) h1
theorem lv_rev_le (a b : List UInt8) : lv a.reverse b.reverse ≤ lv a b := lv_le (lv_ex a b).rev
theorem lv_rev (a b : List UInt8) : lv a.reverse b.reverse = lv a b := by
  refine Nat.le_antisymm (lv_rev_le a b) ?_
  have := lv_rev_le a.reverse b.reverse
  rwa [List.reverse_reverse, List.reverse_reverse] at this
theorem lv_join (a b c d : List UInt8) : lv (a ++ c) (b ++ d) ≤ lv a b + lv c d := lv_le ((lv_ex a b).app (lv_ex c d))
/-- With the same ahead of both it is the same. -/
theorem lv_same (x : UInt8) (a b : List UInt8) : lv (x :: a) (x :: b) = lv a b := by
  refine Nat.le_antisymm (lv_le (.keep x (lv_ex a b))) ?_
  have h := lv_ex (x :: a) (x :: b)
  generalize lv (x :: a) (x :: b) = n at h
  generalize ha : x :: a = a' at h
  generalize hb : x :: b = b' at h
  cases h with
  | nil => cases ha
  | @del a1 _ n z h =>
    injection ha with e1 e2
    subst e2 hb
    obtain ⟨l, h1, h2⟩ := (Ed.del x (Ed.refl b)).trans h
    exact Nat.le_trans (lv_le h2) (by omega)
  | @ins _ b1 n z h =>
    injection hb with e1 e2
    subst e2 ha
    obtain ⟨l, h1, h2⟩ := h.trans (Ed.ins x (Ed.refl a))
    exact Nat.le_trans (lv_le h2) (by omega)
  | rep z y h =>
    injection ha with e1 e2
    injection hb with e3 e4
    subst e2 e4
    have := lv_le h
    omega
  | keep z h =>
    injection ha with e1 e2
    injection hb with e3 e4
    subst e2 e4
    exact lv_le h
theorem lv_ahead (c a b : List UInt8) : lv (c ++ a) (c ++ b) = lv a b := by
  induction c with
  | nil => rfl
  | cons x c ih => rw [List.cons_append, List.cons_append, lv_same, ih]
theorem lv_behind (c a b : List UInt8) : lv (a ++ c) (b ++ c) = lv a b := by
  rw [← lv_rev, List.reverse_append, List.reverse_append, lv_ahead, lv_rev]
theorem lv_unlike {x y : UInt8} (h : x ≠ y) (a b : List UInt8) : lv (x :: a) (y :: b) = 1 + min (min (lv a (y :: b)) (lv (x :: a) b)) (lv a b) := by
  rw [lv_cons, if_neg h]; omega
/-- By the last bytes. -/
theorem lv_snoc (a b : List UInt8) (x y : UInt8) : lv (a ++ [x]) (b ++ [y]) = min (lv a b + if x = y then 0 else 1) (min (lv a (b ++ [y]) + 1) (lv (a ++ [x]) b + 1)) := by
  rw [← lv_rev (a ++ [x]) (b ++ [y]), ← lv_rev a (b ++ [y]), ← lv_rev (a ++ [x]) b, List.reverse_append, List.reverse_append, ← lv_rev a b]
  exact lv_cons x y a.reverse b.reverse
theorem lv_len (a b : List UInt8) : a.length ≤ b.length + lv a b ∧ b.length ≤ a.length + lv a b := (lv_ex a b).len
theorem lv_max : ∀ a b : List UInt8, lv a b ≤ max a.length b.length
  | [], b => by rw [lv_nil]; omega
  | x :: a, [] => by rw [lv_nil']; omega
  | x :: a, y :: b => by
    have h := lv_max a b
    have := lv_le (Ed.rep x y (lv_ex a b))
    simp only [List.length_cons]
    omega
theorem lv_lc (a b : List UInt8) : a.length ≤ Sa.lc a b + lv a b ∧ b.length ≤ Sa.lc a b + lv a b ∧ lv a b + Sa.lc a b + Sa.lc a b ≤ a.length + b.length := by
  obtain ⟨c, h1, h2, h3, h4⟩ := (lv_ex a b).common
  have h5 := Sa.lc_ub a b c h1 h2
  obtain ⟨d, k1, k2, k3⟩ := Sa.lc_ex a b
  obtain ⟨l, h6, h7⟩ := (Ed.of_sub k2).trans (Ed.of_sub k1).symm
  have h8 := lv_le h7
  have h9 := k1.length_le
  have h10 := k2.length_le
  omega
/-- Both turned by k. -/
theorem lv_turned {p u q v : List UInt8} (h : p.length = q.length) : lv (u ++ p) (v ++ q) ≤ lv (p ++ u) (q ++ v) + 2 * p.length := by
  obtain ⟨b1, b2, n1, n2, h1, h2, h3, h4⟩ := (lv_ex (p ++ u) (q ++ v)).split
  have hj := lv_join u v p q
  have hm : lv p q ≤ p.length := by have := lv_max p q; omega
  have h6 := lv_le h3
  have h7 := h2.len
  rcases List.append_eq_append_iff.1 h1 with ⟨r, e1, e2⟩ | ⟨r, e1, e2⟩
  · -- b1 = q ++ r, v = r ++ b2
    subst e1 e2
    have h5 : lv u (r ++ b2) ≤ lv u b2 + r.length := by
      have := lv_join [] r u b2
      rw [lv_nil] at this
      simp only [List.nil_append] at this
      omega
    rw [List.length_append] at h7
    omega
  · -- q = b1 ++ r, b2 = r ++ v
    subst e1 e2
    have h5 : lv (r ++ v) v ≤ r.length := by
      have := lv_join r [] v v
      rw [lv_nil', lv_self] at this
      simpa using this
    have h8 := lv_tri u (r ++ v) v
    rw [List.length_append] at h
    omega

/-- At how many places two words are unlike. -/
def hm : List UInt8 → List UInt8 → Nat
  | x :: a, y :: b => (if x = y then 0 else 1) + hm a b
  | _, _ => 0
theorem hm_le : ∀ a b : List UInt8, hm a b ≤ a.length
  | [], b => by simp [hm]
  | x :: a, [] => by simp [hm]
  | x :: a, y :: b => by
    have := hm_le a b
    simp only [hm, List.length_cons]
    split <;> omega
theorem lv_hm : ∀ {a b : List UInt8}, a.length = b.length → lv a b ≤ hm a b
  | [], [], _ => Nat.le_refl _
  | x :: a, y :: b, h => by
    have h1 := lv_hm (a := a) (b := b) (by simpa using h)
    rw [lv_cons]
    simp only [hm]
    omega
theorem hm_zero : ∀ {a b : List UInt8}, a.length = b.length → (hm a b = 0 ↔ a = b)
  | [], [], _ => by simp [hm]
  | x :: a, y :: b, h => by
    have h1 := hm_zero (a := a) (b := b) (by simpa using h)
    simp only [hm, List.cons.injEq]
    rw [← h1]
    split
    · rename_i e; exact ⟨fun k => ⟨e, by omega⟩, fun k => by omega⟩
    · rename_i e; exact ⟨fun k => by omega, fun k => absurd k.1 e⟩
theorem hm_tri : ∀ {a b c : List UInt8}, a.length = b.length → b.length = c.length → hm a c ≤ hm a b + hm b c
  | [], _, _, _, _ => by simp [hm]
  | x :: a, y :: b, z :: c, h, k => by
    have h1 := hm_tri (a := a) (b := b) (c := c) (by simpa using h) (by simpa using k)
    simp only [hm]
    by_cases e1 : x = y
    · subst e1
      rw [if_pos rfl]
      omega
    · rw [if_neg e1]
      by_cases e2 : y = z
      · subst e2
        rw [if_pos rfl, if_neg e1]
        omega
      · rw [if_neg e2]
        split <;> omega
/-- Counting on from both fronts. -/
theorem hm_snoc : ∀ {a b : List UInt8} (x y : UInt8), a.length = b.length → hm (a ++ [x]) (b ++ [y]) = hm a b + if x = y then 0 else 1
  | [], [], x, y, _ => by simp [hm]
  | u :: a, v :: b, x, y, h => by
    have h1 := hm_snoc (a := a) (b := b) x y (by simpa using h)
    show (if u = v then 0 else 1) + hm (a ++ [x]) (b ++ [y]) = (if u = v then 0 else 1) + hm a b + _
    rw [h1]
    omega
/-- The first i places. -/
def hf (a b : List UInt8) (i : Nat) : Nat := hm (a.take i) (b.take i)
theorem hf_zero (a b : List UInt8) : hf a b 0 = 0 := rfl
theorem hf_step {a b : List UInt8} {i : Nat} (ha : i < a.length) (hb : i < b.length) : hf a b (i + 1) = hf a b i + if a.getD i 0 = b.getD i 0 then 0 else 1 := by
  unfold hf
  rw [Sa.take_at ha, Sa.take_at hb]
  exact hm_snoc _ _ (by rw [List.length_take, List.length_take]; omega)
theorem hf_all {a b : List UInt8} (h : a.length = b.length) : hf a b a.length = hm a b := by
  unfold hf
  rw [List.take_length, h, List.take_length]
theorem hf_le (a b : List UInt8) (i : Nat) : hf a b i ≤ i := by
  have := hm_le (a.take i) (b.take i)
  rw [List.length_take] at this
  unfold hf
  omega

/-- The distance of the first i bytes from the first j. -/
def fl (a b : List UInt8) (i j : Nat) : Nat := lv (a.take i) (b.take j)
theorem fl_none (a b : List UInt8) {j : Nat} (h : j ≤ b.length) : fl a b 0 j = j := by
  unfold fl
  rw [List.take_zero, lv_nil, List.length_take]; omega
theorem fl_none' (a b : List UInt8) {i : Nat} (h : i ≤ a.length) : fl a b i 0 = i := by
  unfold fl
  rw [List.take_zero, lv_nil', List.length_take]; omega
theorem fl_step {a b : List UInt8} {i j : Nat} (hi : i < a.length) (hj : j < b.length) : fl a b (i + 1) (j + 1) = min (fl a b i j + if a.getD i 0 = b.getD j 0 then 0 else 1) (min (fl a b i (j + 1) + 1) (fl a b (i + 1) j + 1)) := by
  unfold fl
  rw [Sa.take_at hi, Sa.take_at hj]
  exact lv_snoc _ _ _ _
theorem fl_all (a b : List UInt8) : fl a b a.length b.length = lv a b := by unfold fl; rw [List.take_length, List.take_length]
theorem fl_le {a b : List UInt8} {i j : Nat} : fl a b i j ≤ max i j := by
  have := lv_max (a.take i) (b.take j)
  rw [List.length_take, List.length_take] at this
  unfold fl
  omega
/-- What is left of both words from i and j on. -/
def bl (a b : List UInt8) (i j : Nat) : Nat := lv (a.drop i) (b.drop j)
theorem bl_zero (a b : List UInt8) : bl a b 0 0 = lv a b := rfl
theorem bl_left {a b : List UInt8} {j : Nat} : bl a b a.length j = b.length - j := by
  unfold bl; rw [List.drop_length, lv_nil, List.length_drop]
theorem bl_right {a b : List UInt8} {i : Nat} : bl a b i b.length = a.length - i := by
  unfold bl; rw [List.drop_length, lv_nil', List.length_drop]
theorem bl_same {a b : List UInt8} {i j : Nat} (hi : i < a.length) (hj : j < b.length) (h : a.getD i 0 = b.getD j 0) : bl a b i j = bl a b (i + 1) (j + 1) := by
  unfold bl
  rw [Sa.drop_at hi, Sa.drop_at hj, h, lv_same]
theorem bl_unlike {a b : List UInt8} {i j : Nat} (hi : i < a.length) (hj : j < b.length) (h : a.getD i 0 ≠ b.getD j 0) : bl a b i j = 1 + min (min (bl a b (i + 1) j) (bl a b i (j + 1))) (bl a b (i + 1) (j + 1)) := by
  unfold bl
  rw [Sa.drop_at hi, Sa.drop_at hj, lv_unlike h]
theorem bl_le (a b : List UInt8) (i j : Nat) : bl a b i j ≤ max a.length b.length := by
  unfold bl
  have := lv_max (a.drop i) (b.drop j)
  rw [List.length_drop, List.length_drop] at this
  omega
end Go.Proofs.Ytejcijlmpiiffaa.Lev
