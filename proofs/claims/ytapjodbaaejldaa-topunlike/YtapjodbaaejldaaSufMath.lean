
/-
Plain mathematics on the ends of a word in their order: what two of them have in common, the unlike words in a word, the longest word that stands twice. No program is named here.
-/
import Derived.Test.YtapjodbaaejldaaFactMath
namespace Go.Proofs.Ytapjodbaaejldaa
namespace Sm
open Lm

theorem cons_lt {a b : UInt8} {x y : List UInt8} : a :: x < b :: y ↔ a < b ∨ a = b ∧ x < y := List.cons_lt_cons_iff
theorem u8_tri {a b : UInt8} (h1 : ¬ a < b) (h2 : ¬ b < a) : a = b := by
  rw [UInt8.lt_iff_toNat_lt] at h1 h2
  exact UInt8.toNat_inj.1 (by omega)
/-- Whatever lies between a word and its front has that front. -/
theorem sandwich : ∀ {y m z : List UInt8}, y <+: z → ¬ m < y → ¬ z < m → y <+: m
  | [], m, z, _, _, _ => List.nil_prefix
  | a :: y, [], z, _, h, _ => absurd (List.nil_lt_cons _ _) h
  | a :: y, b :: m, [], hp, _, _ => by simp at hp
  | a :: y, b :: m, c :: z, hp, h1, h2 => by
    rw [List.cons_prefix_cons] at hp
    obtain ⟨rfl, hp⟩ := hp
    rw [cons_lt] at h1 h2
    have e : a = b := u8_tri (fun h => h2 (.inl h)) (fun h => h1 (.inl h))
    subst e
    rw [List.cons_prefix_cons]
    exact ⟨rfl, sandwich hp (fun h => h1 (.inr ⟨rfl, h⟩)) (fun h => h2 (.inr ⟨rfl, h⟩))⟩
theorem tri {a b : List UInt8} (h1 : ¬ a < b) (h2 : ¬ b < a) : a = b := List.le_antisymm h2 h1
theorem as_ {a b : List UInt8} (h : a < b) : ¬ b < a := fun k => irr a (lt_tr h k)
theorem pfx_le {y z : List UInt8} (h : y <+: z) : ¬ z < y := by obtain ⟨t, rfl⟩ := h; exact pre_le t
/-- A front that the lesser word has not is greater than the lesser word. -/
theorem pfx_gt {y x z : List UInt8} (h : y <+: z) (hl : ¬ z < x) (hn : ¬ y <+: x) : x < y := by
  by_cases hx : x < y
  · exact hx
  · exact absurd (sandwich h hx hl) hn
theorem take_mono : ∀ {m : Nat} {a b : List UInt8}, ¬ b < a → ¬ b.take m < a.take m
  | 0, a, b, _ => by simp
  | m + 1, [], b, _ => by simp
  | m + 1, a :: x, [], h => absurd (List.nil_lt_cons _ _) h
  | m + 1, a :: x, b :: y, h => by
    rw [cons_lt] at h
    rw [List.take_succ_cons, List.take_succ_cons, cons_lt]
    rintro (k | ⟨rfl, k⟩)
    · exact h (.inl k)
    · exact take_mono (fun hx => h (.inr ⟨rfl, hx⟩)) k

/-- How many bytes two words begin alike with. -/
def lcp : List UInt8 → List UInt8 → Nat
  | a :: x, b :: y => if a = b then lcp x y + 1 else 0
  | _, _ => 0
theorem lcp_pre : ∀ (x y : List UInt8) (n : Nat), n ≤ lcp x y ↔ n ≤ x.length ∧ x.take n <+: y
  | [], y, n => by
    have : lcp [] y = 0 := by cases y <;> rfl
    rw [this]
    simp
  | a :: x, [], n => by
    show n ≤ 0 ↔ _
    cases n with
    | zero => simp
    | succ n => simp
  | a :: x, b :: y, n => by
    show n ≤ (if a = b then lcp x y + 1 else 0) ↔ _
    cases n with
    | zero => simp
    | succ n =>
      rw [List.take_succ_cons, List.cons_prefix_cons]
      by_cases h : a = b
      · rw [if_pos h, Nat.add_le_add_iff_right, lcp_pre x y n]
        simp [h]
      · rw [if_neg h]
        simp [h]
theorem lcp_left (x y : List UInt8) : lcp x y ≤ x.length := ((lcp_pre x y _).1 (Nat.le_refl _)).1
theorem lcp_take (x y : List UInt8) : x.take (lcp x y) <+: y := ((lcp_pre x y _).1 (Nat.le_refl _)).2
theorem lcp_right (x y : List UInt8) : lcp x y ≤ y.length := by
  have h := (lcp_take x y).length_le
  rw [List.length_take, Nat.min_eq_left (lcp_left x y)] at h
  exact h
theorem lcp_same (x y : List UInt8) : x.take (lcp x y) = y.take (lcp x y) := by
  have h := List.prefix_iff_eq_take.1 (lcp_take x y)
  rw [List.length_take, Nat.min_eq_left (lcp_left x y)] at h
  exact h
/-- A word is a front of both just if it is a front of one and no longer than what they have in common. -/
theorem pfx_lcp {p x y : List UInt8} (h : p <+: x) : p <+: y ↔ p.length ≤ lcp x y := by
  have e := List.prefix_iff_eq_take.1 h
  rw [lcp_pre, ← e]
  exact ⟨fun k => ⟨h.length_le, k⟩, fun k => k.2⟩
theorem pfx_lcp' {p x y : List UInt8} (h : p <+: y) : p <+: x ↔ p.length ≤ lcp x y := by
  constructor
  · intro k; exact (pfx_lcp k).1 h
  · intro k
    have e := List.prefix_iff_eq_take.1 h
    rw [e]
    have h1 : y.take p.length <+: y.take (lcp x y) := List.take_prefix_take_left k
    rw [← lcp_same] at h1
    exact h1.trans (List.take_prefix _ _)
theorem lcp_is : ∀ {x y : List UInt8} {n : Nat}, n ≤ x.length → n ≤ y.length → (∀ t, t < n → x.getD t 0 = y.getD t 0) → (n = x.length ∨ n = y.length ∨ x.getD n 0 ≠ y.getD n 0) → lcp x y = n
  | [], y, n, h1, _, _, _ => by
    have : lcp [] y = 0 := by cases y <;> rfl
    rw [this]
    simp at h1; exact h1.symm
  | a :: x, [], n, _, h2, _, _ => by
    show 0 = n
    simp at h2; exact h2.symm
  | a :: x, b :: y, 0, _, _, _, h4 => by
    show (if a = b then lcp x y + 1 else 0) = 0
    simp at h4
    rw [if_neg h4]
  | a :: x, b :: y, n + 1, h1, h2, h3, h4 => by
    have e : a = b := h3 0 (by omega)
    show (if a = b then lcp x y + 1 else 0) = n + 1
    rw [if_pos e, lcp_is (x := x) (y := y) (n := n) (by simpa using h1) (by simpa using h2) (fun t ht => by have := h3 (t + 1) (by omega); simpa using this) (by simpa using h4)]

/-- The places of s in the order of their ends. -/
def SA (s : List UInt8) (L : List Nat) : Prop := L.Perm (List.range s.length) ∧ L.Pairwise (fun a b => s.drop a < s.drop b)
theorem drop_inj {s : List UInt8} {a b : Nat} (ha : a < s.length) (hb : b < s.length) (h : s.drop a = s.drop b) : a = b := by
  have := congrArg List.length h
  simp at this
  omega
theorem sorted_same {α : Type} {R : α → α → Prop} (hR : ∀ a b, R a b → ¬ R b a) (hI : ∀ a, ¬ R a a) : ∀ {L M : List α}, L.Pairwise R → M.Pairwise R → (∀ x, x ∈ L ↔ x ∈ M) → L = M
  | [], [], _, _, _ => rfl
  | [], b :: M, _, _, h => by have := (h b).2 List.mem_cons_self; simp at this
  | a :: L, [], _, _, h => by have := (h a).1 List.mem_cons_self; simp at this
  | a :: L, b :: M, hL, hM, h => by
    rw [List.pairwise_cons] at hL hM
    have e : a = b := by
      rcases List.mem_cons.1 ((h a).1 List.mem_cons_self) with e | e
      · exact e
      · rcases List.mem_cons.1 ((h b).2 List.mem_cons_self) with k | k
        · exact k.symm
        · exact absurd (hL.1 b k) (hR _ _ (hM.1 a e))
    subst e
    rw [sorted_same hR hI hL.2 hM.2 fun x => ?_]
    constructor
    · intro hx
      rcases List.mem_cons.1 ((h x).1 (List.mem_cons_of_mem _ hx)) with e | e
      · subst e; exact absurd (hL.1 x hx) (hI x)
      · exact e
    · intro hx
      rcases List.mem_cons.1 ((h x).2 (List.mem_cons_of_mem _ hx)) with e | e
      · subst e; exact absurd (hM.1 x hx) (hI x)
      · exact e
theorem SA.unique {s : List UInt8} {L M : List Nat} (h : SA s L) (k : SA s M) : L = M :=
  sorted_same (R := fun a b => s.drop a < s.drop b) (fun _ _ h => as_ h) (fun _ => irr _) h.2 k.2 fun x => by rw [h.1.mem_iff, k.1.mem_iff]
def saL (s : List UInt8) : List Nat := (List.range s.length).mergeSort (fun a b => decide (¬ s.drop b < s.drop a))
theorem saL_sa (s : List UInt8) : SA s (saL s) := by
  have hp := List.mergeSort_perm (List.range s.length) (fun a b => decide (¬ s.drop b < s.drop a))
  have hs := List.pairwise_mergeSort (le := fun a b => decide (¬ s.drop b < s.drop a)) (fun a b c h1 h2 => by
    simp only [decide_eq_true_eq] at h1 h2 ⊢
    exact le_tr h1 h2) (fun a b => by
    simp only [Bool.or_eq_true, decide_eq_true_eq]
    by_cases h : s.drop b < s.drop a
    · exact .inr (as_ h)
    · exact .inl h) (List.range s.length)
  refine ⟨hp, ?_⟩
  have hd : (saL s).Pairwise (· ≠ ·) := (hp.pairwise_iff (fun h => Ne.symm h)).2 (List.pairwise_lt_range.imp fun h => by omega)
  refine List.Pairwise.imp_of_mem ?_ (List.Pairwise.and (show (saL s).Pairwise _ from hs) hd)
  intro a b ha hb ⟨h1, h2⟩
  simp only [decide_eq_true_eq] at h1
  have ha' := List.mem_range.1 (hp.mem_iff.1 ha)
  have hb' := List.mem_range.1 (hp.mem_iff.1 hb)
  by_cases h : s.drop a < s.drop b
  · exact h
  · exact absurd (drop_inj ha' hb' (tri h h1)) h2
theorem saL_len (s : List UInt8) : (saL s).length = s.length := by rw [(saL_sa s).1.length_eq, List.length_range]
/-- The place at k in the order; its end. -/
def sa (s : List UInt8) (k : Nat) : Nat := (saL s).getD k 0
def X (s : List UInt8) (k : Nat) : List UInt8 := s.drop (sa s k)
theorem sa_get {s : List UInt8} {k : Nat} (h : k < s.length) : sa s k = (saL s)[k]'(by rw [saL_len]; exact h) := by
  unfold sa
  rw [List.getD_eq_getElem?_getD, List.getElem?_eq_getElem (by rw [saL_len]; exact h), Option.getD_some]
theorem sa_lt {s : List UInt8} {k : Nat} (h : k < s.length) : sa s k < s.length := by
  rw [sa_get h]
  exact List.mem_range.1 ((saL_sa s).1.mem_iff.1 (List.getElem_mem _))
theorem X_len {s : List UInt8} (k : Nat) : (X s k).length = s.length - sa s k := by unfold X; rw [List.length_drop]
theorem X_lt {s : List UInt8} {i k : Nat} (h : i < k) (hk : k < s.length) : X s i < X s k := by
  unfold X
  rw [sa_get (by omega : i < s.length), sa_get hk]
  exact List.pairwise_iff_getElem.1 (saL_sa s).2 i k (by rw [saL_len]; omega) (by rw [saL_len]; omega) h
theorem X_le {s : List UInt8} {i k : Nat} (h : i ≤ k) (hk : k < s.length) : ¬ X s k < X s i := by
  rcases Nat.lt_or_ge i k with h1 | h1
  · exact as_ (X_lt h1 hk)
  · obtain rfl : i = k := by omega
    exact irr _
theorem X_lt_iff {s : List UInt8} {i k : Nat} (hi : i < s.length) (hk : k < s.length) : X s i < X s k ↔ i < k := by
  constructor
  · intro h
    by_cases h1 : i < k
    · exact h1
    · exact absurd h (X_le (by omega) hi)
  · exact fun h => X_lt h hk
theorem sa_inj {s : List UInt8} {i k : Nat} (hi : i < s.length) (hk : k < s.length) (h : sa s i = sa s k) : i = k := by
  have e : X s i = X s k := by unfold X; rw [h]
  have h1 : ¬ i < k := fun hx => irr _ (e ▸ X_lt hx hk)
  have h2 : ¬ k < i := fun hx => irr _ (e ▸ X_lt hx hi)
  omega
theorem rank {s : List UInt8} {p : Nat} (h : p < s.length) : ∃ k, k < s.length ∧ sa s k = p := by
  have hm := (saL_sa s).1.mem_iff.2 (List.mem_range.2 h)
  obtain ⟨k, hk, e⟩ := List.getElem_of_mem hm
  rw [saL_len] at hk
  exact ⟨k, hk, by rw [sa_get hk]; exact e⟩
/-- What the end at k has in common with the one before. -/
def C (s : List UInt8) (k : Nat) : Nat := if k = 0 then 0 else lcp (X s (k - 1)) (X s k)
theorem C_zero (s : List UInt8) : C s 0 = 0 := rfl
theorem C_succ (s : List UInt8) (k : Nat) : C s (k + 1) = lcp (X s k) (X s (k + 1)) := by unfold C; rw [if_neg (by omega)]; rfl
theorem C_le (s : List UInt8) (k : Nat) : C s k ≤ s.length - sa s k := by
  cases k with
  | zero => rw [C_zero]; omega
  | succ k => rw [C_succ, ← X_len]; exact lcp_right _ _
/-- A word that two ends begin with is begun with by all ends between. -/
theorem between {s y : List UInt8} {i j k : Nat} (h1 : i ≤ j) (h2 : j ≤ k) (hk : k < s.length) (hi : y <+: X s i) (hy : y <+: X s k) : y <+: X s j :=
  sandwich hy (le_tr (pfx_le hi) (X_le h1 (by omega))) (X_le h2 hk)
theorem common_le {s : List UInt8} {i j k : Nat} (h1 : i < j) (h2 : j ≤ k) (hk : k < s.length) : lcp (X s i) (X s k) ≤ C s j := by
  obtain ⟨j, rfl⟩ : ∃ j', j = j' + 1 := ⟨j - 1, by omega⟩
  rw [C_succ]
  have hl := lcp_left (X s i) (X s k)
  have hp : (X s i).take (lcp (X s i) (X s k)) <+: X s i := List.take_prefix _ _
  have ha := between (j := j) (by omega) (by omega) hk hp (lcp_take _ _)
  have hb := between (j := j + 1) (by omega) (by omega) hk hp (lcp_take _ _)
  have := (pfx_lcp ha).1 hb
  rw [List.length_take, Nat.min_eq_left hl] at this
  exact this
theorem common_ge {s : List UInt8} {i m : Nat} : ∀ d, (∀ j, i < j → j ≤ i + (d + 1) → m ≤ C s j) → m ≤ lcp (X s i) (X s (i + (d + 1)))
  | 0, h => by
    have := h (i + 1) (by omega) (by omega)
    rwa [C_succ] at this
  | d + 1, h => by
    have h1 := common_ge d fun j a b => h j a (by omega)
    have h2 := h (i + (d + 1) + 1) (by omega) (by omega)
    rw [C_succ] at h2
    obtain ⟨a1, a2⟩ := (lcp_pre _ _ _).1 h1
    obtain ⟨b1, b2⟩ := (lcp_pre _ _ _).1 h2
    rw [lcp_pre]
    refine ⟨a1, ?_⟩
    have e := List.prefix_iff_eq_take.1 a2
    rw [List.length_take, Nat.min_eq_left a1] at e
    rw [e]
    exact b2

/-- The words that the end at k begins with, and no end before it. -/
def blk (s : List UInt8) (k : Nat) : List (List UInt8) := (List.range (s.length - sa s k - C s k)).map fun t => (X s k).take (C s k + 1 + t)
def PF (s : List UInt8) (i : Nat) : List (List UInt8) := (List.range i).flatMap (blk s)
theorem PF_succ (s : List UInt8) (i : Nat) : PF s (i + 1) = PF s i ++ blk s i := by unfold PF; rw [List.range_succ, List.flatMap_append]; simp
theorem PF_len (s : List UInt8) (i : Nat) : (PF s (i + 1)).length = (PF s i).length + (s.length - sa s i - C s i) := by
  rw [PF_succ, List.length_append]; congr 1; unfold blk; rw [List.length_map, List.length_range]
theorem mem_blk {s y : List UInt8} {k : Nat} : y ∈ blk s k ↔ y <+: X s k ∧ C s k < y.length := by
  unfold blk
  rw [List.mem_map]
  have hc := C_le s k
  have hx := X_len (s := s) k
  constructor
  · rintro ⟨t, ht, rfl⟩
    have := List.mem_range.1 ht
    refine ⟨List.take_prefix _ _, ?_⟩
    rw [List.length_take]; omega
  · rintro ⟨h1, h2⟩
    have := h1.length_le
    refine ⟨y.length - C s k - 1, List.mem_range.2 (by omega), ?_⟩
    rw [show C s k + 1 + (y.length - C s k - 1) = y.length by omega]
    exact (List.prefix_iff_eq_take.1 h1).symm
theorem blk_up (s : List UInt8) (k : Nat) : (blk s k).Pairwise (· < ·) := by
  unfold blk
  rw [List.pairwise_map]
  refine List.Pairwise.imp_of_mem ?_ List.pairwise_lt_range
  intro a b ha hb h
  have h1 := List.mem_range.1 ha
  have h2 := List.mem_range.1 hb
  have hx := X_len (s := s) k
  have hp : (X s k).take (C s k + 1 + a) <+: (X s k).take (C s k + 1 + b) := List.take_prefix_take_left (by omega)
  obtain ⟨t, ht⟩ := hp
  have hl := congrArg List.length ht
  simp only [List.length_append, List.length_take] at hl
  have htn : t ≠ [] := by rintro rfl; simp at hl; omega
  rw [← ht]
  exact pre_lt _ htn
theorem blk_gt {s y : List UInt8} {j k : Nat} (h : j < k) (hk : k < s.length) (hy : y ∈ blk s k) : X s j < y := by
  obtain ⟨k, rfl⟩ : ∃ k', k = k' + 1 := ⟨k - 1, by omega⟩
  obtain ⟨h1, h2⟩ := mem_blk.1 hy
  rw [C_succ] at h2
  have h3 : X s k < y := pfx_gt h1 (X_le (by omega) hk) (fun hn => by have := (pfx_lcp hn).1 h1; omega)
  exact le_lt (X_le (by omega) (by omega)) h3
theorem PF_up {s : List UInt8} : ∀ i, i ≤ s.length → (PF s i).Pairwise (· < ·)
  | 0, _ => by simp [PF]
  | i + 1, h => by
    rw [PF_succ, List.pairwise_append]
    refine ⟨PF_up i (by omega), blk_up s i, fun a ha b hb => ?_⟩
    unfold PF at ha
    obtain ⟨j, hj, ha⟩ := List.mem_flatMap.1 ha
    have hj := List.mem_range.1 hj
    exact le_lt (pfx_le (mem_blk.1 ha).1) (blk_gt hj (by omega) hb)
theorem first_end {s y : List UInt8} : ∀ k, y <+: X s k → y ≠ [] → ∃ j, j ≤ k ∧ y ∈ blk s j
  | 0, h, hy => ⟨0, Nat.le_refl _, mem_blk.2 ⟨h, by rw [C_zero]; exact List.length_pos_iff.2 hy⟩⟩
  | k + 1, h, hy => by
    by_cases hp : y <+: X s k
    · obtain ⟨j, h1, h2⟩ := first_end k hp hy
      exact ⟨j, by omega, h2⟩
    · refine ⟨k + 1, Nat.le_refl _, mem_blk.2 ⟨h, ?_⟩⟩
      rw [C_succ]
      by_cases hl : lcp (X s k) (X s (k + 1)) < y.length
      · exact hl
      · exact absurd ((pfx_lcp' h).2 (by omega)) hp
/-- The unlike words in s, but for the empty one, rising. -/
def dl (s : List UInt8) : List (List UInt8) := PF s s.length
theorem dl_up (s : List UInt8) : (dl s).Pairwise (· < ·) := PF_up _ (Nat.le_refl _)
theorem mem_dl {s y : List UInt8} : y ∈ dl s ↔ y ≠ [] ∧ ∃ p, p < s.length ∧ y <+: s.drop p := by
  unfold dl PF
  rw [List.mem_flatMap]
  constructor
  · rintro ⟨k, hk, h⟩
    have hk := List.mem_range.1 hk
    obtain ⟨h1, h2⟩ := mem_blk.1 h
    exact ⟨by rintro rfl; simp at h2, sa s k, sa_lt hk, h1⟩
  · rintro ⟨h1, p, hp, h2⟩
    obtain ⟨k, hk, rfl⟩ := rank hp
    obtain ⟨j, h3, h4⟩ := first_end k h2 h1
    exact ⟨j, List.mem_range.2 (by omega), h4⟩
theorem dl_nodup (s : List UInt8) : (dl s).Nodup := List.Pairwise.imp (fun {a b} (h : a < b) => (fun e => irr b (e ▸ h) : a ≠ b)) (dl_up s)

/-- y stands at two places. -/
def Rep (s y : List UInt8) : Prop := ∃ p q, p < q ∧ q + y.length ≤ s.length ∧ y <+: s.drop p ∧ y <+: s.drop q
/-- The longest word that stands at two places, and the least of several. -/
def IsTw (s y : List UInt8) : Prop := (y = [] ∨ Rep s y) ∧ ∀ z, Rep s z → z.length < y.length ∨ (z.length = y.length ∧ ¬ z < y)
theorem IsTw.unique {s y z : List UInt8} (h : IsTw s y) (k : IsTw s z) : y = z := by
  have hl : ∀ {y z}, IsTw s y → IsTw s z → y.length ≤ z.length := by
    intro y z h k
    rcases h.1 with rfl | h1
    · simp
    · rcases k.2 y h1 with h2 | h2 <;> omega
  have h1 := hl h k
  have h2 := hl k h
  rcases h.1 with rfl | h3
  · exact (show z = [] by simpa using h2).symm
  · rcases k.1 with rfl | h4
    · simpa using h1
    · rcases k.2 y h3 with h5 | ⟨_, h5⟩
      · omega
      · rcases h.2 z h4 with h6 | ⟨_, h6⟩
        · omega
        · exact tri h5 h6
/-- What suffix.Twice holds when i ends are done. -/
def TwAt (s : List UInt8) (i : Nat) (y : List UInt8) : Prop := (∀ j, j < i → C s j ≤ y.length) ∧ (y = [] ∨ ∃ j, j < i ∧ y = (X s j).take (C s j) ∧ y.length = C s j ∧ ∀ k, k < j → C s k < C s j)
theorem TwAt.zero (s : List UInt8) : TwAt s 0 [] := ⟨fun j h => by omega, .inl rfl⟩
theorem TwAt.no {s y : List UInt8} {i : Nat} (h : TwAt s i y) (hc : C s i ≤ y.length) : TwAt s (i + 1) y := by
  refine ⟨fun j hj => ?_, ?_⟩
  · by_cases e : j = i
    · rw [e]; exact hc
    · exact h.1 j (by omega)
  · rcases h.2 with h | ⟨j, h1, h2⟩
    · exact .inl h
    · exact .inr ⟨j, by omega, h2⟩
theorem TwAt.yes {s y : List UInt8} {i : Nat} (h : TwAt s i y) (hc : y.length < C s i) : TwAt s (i + 1) ((X s i).take (C s i)) := by
  have hl : ((X s i).take (C s i)).length = C s i := by rw [List.length_take, X_len]; have := C_le s i; omega
  refine ⟨fun j hj => ?_, .inr ⟨i, by omega, rfl, hl, fun k hk => ?_⟩⟩
  · rw [hl]
    by_cases e : j = i
    · rw [e]; exact Nat.le_refl _
    · have := h.1 j (by omega); omega
  · have := h.1 k hk; omega
theorem rep_of {s y : List UInt8} {p q : Nat} (hne : p ≠ q) (h1 : y <+: s.drop p) (h2 : y <+: s.drop q) (hy : y ≠ []) : Rep s y := by
  have h0 := List.length_pos_iff.2 hy
  have l1 := h1.length_le
  have l2 := h2.length_le
  rw [List.length_drop] at l1 l2
  rcases Nat.lt_or_ge p q with h | h
  · exact ⟨p, q, h, by omega, h1, h2⟩
  · exact ⟨q, p, by omega, by omega, h2, h1⟩
theorem rep_rank {s y : List UInt8} (h : Rep s y) (hy : y ≠ []) : ∃ b, b < s.length ∧ y.length ≤ C s b ∧ y <+: X s b := by
  obtain ⟨p, q, hpq, hq, h1, h2⟩ := h
  have h0 := List.length_pos_iff.2 hy
  obtain ⟨a, ha, rfl⟩ := rank (s := s) (p := p) (by omega)
  obtain ⟨b, hb, rfl⟩ := rank (s := s) (p := q) (by omega)
  have key : ∀ a b, a < b → b < s.length → y <+: X s a → y <+: X s b → y.length ≤ C s b := by
    intro a b hab hb ha hbp
    obtain ⟨b, rfl⟩ : ∃ b', b = b' + 1 := ⟨b - 1, by omega⟩
    rw [C_succ]
    exact (pfx_lcp (between (j := b) (by omega) (by omega) hb ha hbp)).1 hbp
  rcases Nat.lt_or_ge a b with h | h
  · exact ⟨b, hb, key a b h hb h1 h2, h2⟩
  · have : a ≠ b := by rintro rfl; omega
    exact ⟨a, ha, key b a (by omega) ha h2 h1, h1⟩
theorem TwAt.done {s y : List UInt8} (h : TwAt s s.length y) : IsTw s y := by
  refine ⟨?_, fun z hz => ?_⟩
  · rcases h.2 with h | ⟨j, hj, h1, h2, h3⟩
    · exact .inl h
    · by_cases hy : y = []
      · exact .inl hy
      · right
        obtain ⟨j, rfl⟩ : ∃ j', j = j' + 1 := by
          cases j with
          | zero => rw [C_zero] at h2; exact absurd (List.eq_nil_of_length_eq_zero h2) hy
          | succ j => exact ⟨j, rfl⟩
        rw [C_succ] at h1 h2
        refine rep_of (p := sa s j) (q := sa s (j + 1)) (fun e => ?_) ?_ ?_ hy
        · have := sa_inj (by omega) hj e; omega
        · rw [h1, ← lcp_same]; exact List.take_prefix _ _
        · rw [h1]; exact List.take_prefix _ _
  · by_cases hzn : z = []
    · subst hzn
      rcases h.2 with h | ⟨j, hj, h1, h2, h3⟩
      · subst h; exact .inr ⟨rfl, irr _⟩
      · by_cases hy : y = []
        · subst hy; exact .inr ⟨rfl, irr _⟩
        · left; exact List.length_pos_iff.2 hy
    · obtain ⟨b, hb, h1, h2⟩ := rep_rank hz hzn
      have h3 := h.1 b hb
      by_cases hl : z.length < y.length
      · exact .inl hl
      · right
        refine ⟨by omega, ?_⟩
        have hz0 := List.length_pos_iff.2 hzn
        rcases h.2 with h4 | ⟨j, hj, h5, h6, h7⟩
        · subst h4; simp at hl h3; omega
        · have hjb : j ≤ b := by
            rcases Nat.lt_or_ge b j with h8 | h8
            · have := h7 b h8; omega
            · exact h8
          have e := List.prefix_iff_eq_take.1 h2
          rw [e, h5, show z.length = C s j by omega]
          exact take_mono (X_le hjb hb)

theorem two_iff {α : Type} [BEq α] [LawfulBEq α] {v : α} : ∀ {L : List α}, 2 ≤ L.count v ↔ ∃ p q : Nat, p < q ∧ L[p]? = some v ∧ L[q]? = some v
  | [] => by simp
  | a :: L => by
    rw [List.count_cons]
    by_cases e : a = v
    · subst e
      simp only [beq_self_eq_true, if_true]
      constructor
      · intro h
        have hm : a ∈ L := List.count_pos_iff.1 (by omega)
        obtain ⟨k, hk, e⟩ := List.getElem_of_mem hm
        exact ⟨0, k + 1, by omega, by simp, by simp [List.getElem?_eq_getElem hk, e]⟩
      · rintro ⟨p, q, hpq, _, h⟩
        obtain ⟨q, rfl⟩ : ∃ q', q = q' + 1 := ⟨q - 1, by omega⟩
        rw [List.getElem?_cons_succ] at h
        have := List.count_pos_iff.2 (List.mem_of_getElem? h)
        omega
    · have e2 : (a == v) = false := beq_eq_false_iff_ne.2 e
      rw [e2]
      simp only [Bool.false_eq_true, if_false, Nat.add_zero]
      rw [two_iff (L := L)]
      constructor
      · rintro ⟨p, q, h1, h2, h3⟩
        exact ⟨p + 1, q + 1, by omega, by simpa using h2, by simpa using h3⟩
      · rintro ⟨p, q, h1, h2, h3⟩
        cases p with
        | zero => simp at h2; exact absurd h2 e
        | succ p =>
          obtain ⟨q, rfl⟩ : ∃ q', q = q' + 1 := ⟨q - 1, by omega⟩
          exact ⟨p, q, by omega, by simpa using h2, by simpa using h3⟩
/-- All words of m bytes in s, from the left. -/
def subL (s : List UInt8) (m i : Nat) : List (List UInt8) := (List.range i).map fun p => (s.drop p).take m
theorem subL_succ (s : List UInt8) (m i : Nat) : subL s m (i + 1) = subL s m i ++ [(s.drop i).take m] := by unfold subL; rw [List.range_succ, List.map_append]; rfl
theorem subL_len (s : List UInt8) (m i : Nat) : (subL s m i).length = i := by unfold subL; simp
theorem rep_subL {s y : List UInt8} {m : Nat} (hm : m ≤ s.length) (hy : y.length = m) : Rep s y ↔ 2 ≤ (subL s m (s.length + 1 - m)).count y := by
  rw [two_iff]
  have hget : ∀ p, p < s.length + 1 - m → (subL s m (s.length + 1 - m))[p]? = some ((s.drop p).take m) := by
    intro p hp
    unfold subL
    rw [List.getElem?_map, List.getElem?_range hp]; rfl
  constructor
  · rintro ⟨p, q, h1, h2, h3, h4⟩
    refine ⟨p, q, h1, ?_, ?_⟩
    · rw [hget p (by omega), ← hy, ← List.prefix_iff_eq_take.1 h3]
    · rw [hget q (by omega), ← hy, ← List.prefix_iff_eq_take.1 h4]
  · rintro ⟨p, q, h1, h2, h3⟩
    have hq : q < s.length + 1 - m := by
      have := (List.getElem?_eq_some_iff.1 h3).1
      rwa [subL_len] at this
    rw [hget p (by omega)] at h2
    rw [hget q hq] at h3
    injection h2 with h2
    injection h3 with h3
    exact ⟨p, q, h1, by omega, h2 ▸ List.take_prefix _ _, h3 ▸ List.take_prefix _ _⟩
/-- M: the words of m bytes, in order. -/
def Ordered (s : List UInt8) (m : Nat) (M : List (List UInt8)) : Prop := M.Perm (subL s m (s.length + 1 - m)) ∧ M.Pairwise fun a b => ¬ b < a
theorem Ordered.rep {s y : List UInt8} {m : Nat} {M : List (List UInt8)} (h : Ordered s m M) (hm : m ≤ s.length) (hy : y.length = m) : Rep s y ↔ ∃ p q : Nat, p < q ∧ M[p]? = some y ∧ M[q]? = some y := by
  rw [rep_subL hm hy, ← h.1.count_eq, two_iff]
theorem Ordered.adj {s y : List UInt8} {m : Nat} {M : List (List UInt8)} (h : Ordered s m M) (hm : m ≤ s.length) (hy : y.length = m) (hr : Rep s y) : ∃ p : Nat, M[p]? = some y ∧ M[p + 1]? = some y := by
  obtain ⟨p, q, h1, h2, h3⟩ := (h.rep hm hy).1 hr
  obtain ⟨hq, e3⟩ := List.getElem?_eq_some_iff.1 h3
  obtain ⟨hp, e2⟩ := List.getElem?_eq_some_iff.1 h2
  refine ⟨p, h2, ?_⟩
  have hs := List.pairwise_iff_getElem.1 h.2
  have a1 : ¬ M[p + 1] < M[p] := hs p (p + 1) hp (by omega) (by omega)
  have a2 : ¬ M[q] < M[p + 1] := by
    rcases Nat.lt_or_ge (p + 1) q with hx | hx
    · exact hs (p + 1) q (by omega) hq hx
    · have : p + 1 = q := by omega
      subst this
      exact irr _
  rw [e2] at a1
  rw [e3] at a2
  rw [List.getElem?_eq_getElem (by omega)]
  congr 1
  exact tri a1 a2
theorem Ordered.none_ {s : List UInt8} {m : Nat} {M : List (List UInt8)} (h : Ordered s m M) (hm : m ≤ s.length) (hn : ∀ i, 0 < i → i < M.length → M.getD i [] ≠ M.getD (i - 1) []) : ∀ y, Rep s y → y.length ≠ m := by
  intro y hr hy
  obtain ⟨p, h1, h2⟩ := h.adj hm hy hr
  have hl := (List.getElem?_eq_some_iff.1 h2).1
  refine hn (p + 1) (by omega) hl ?_
  rw [List.getD_eq_getElem?_getD, List.getD_eq_getElem?_getD, h2, Nat.add_sub_cancel, h1]
theorem Ordered.len {s y : List UInt8} {m : Nat} {M : List (List UInt8)} (h : Ordered s m M) (hm : m ≤ s.length) (hy : y ∈ M) : y.length = m := by
  have := h.1.mem_iff.1 hy
  unfold subL at this
  obtain ⟨p, hp, rfl⟩ := List.mem_map.1 this
  have := List.mem_range.1 hp
  rw [List.length_take, List.length_drop]
  omega
theorem Ordered.found {s : List UInt8} {m i : Nat} {M : List (List UInt8)} (h : Ordered s m M) (hm : m ≤ s.length) (hi0 : 0 < i) (hi : i < M.length) (he : M.getD i [] = M.getD (i - 1) []) (hn : ∀ j, 0 < j → j < i → M.getD j [] ≠ M.getD (j - 1) []) (hg : ∀ y, Rep s y → y.length ≤ m) : IsTw s (M.getD i []) := by
  have g0 : ∀ j, j < M.length → M[j]? = some (M.getD j []) := by
    intro j hj
    rw [List.getD_eq_getElem?_getD, List.getElem?_eq_getElem hj]; rfl
  have hmem : M.getD i [] ∈ M := List.mem_of_getElem? (g0 i hi)
  have hl := h.len hm hmem
  refine ⟨.inr ((h.rep hm hl).2 ⟨i - 1, i, by omega, by rw [g0 (i - 1) (by omega), he], g0 i hi⟩), fun z hz => ?_⟩
  have := hg z hz
  rw [hl]
  by_cases hzl : z.length < m
  · exact .inl hzl
  · refine .inr ⟨by omega, ?_⟩
    obtain ⟨p, h1, h2⟩ := h.adj hm (by omega) hz
    have hp := (List.getElem?_eq_some_iff.1 h2).1
    have hip : i ≤ p + 1 := by
      rcases Nat.lt_or_ge (p + 1) i with hx | hx
      · exfalso
        refine hn (p + 1) (by omega) hx ?_
        rw [List.getD_eq_getElem?_getD, List.getD_eq_getElem?_getD, h2, Nat.add_sub_cancel, h1]
      · exact hx
    obtain ⟨hp2, e2⟩ := List.getElem?_eq_some_iff.1 h2
    have ei : M.getD i [] = M[i] := by rw [List.getD_eq_getElem?_getD, List.getElem?_eq_getElem hi]; rfl
    rw [ei, ← e2]
    rcases Nat.lt_or_ge i (p + 1) with hx | hx
    · exact List.pairwise_iff_getElem.1 h.2 i (p + 1) hi hp2 hx
    · have : i = p + 1 := by omega
      subst this
      exact irr _
theorem rep_short {s y : List UInt8} (h : Rep s y) : y.length ≤ s.length - 1 := by obtain ⟨p, q, h1, h2, _⟩ := h; omega
theorem no_rep {s : List UInt8} (h : ∀ y, Rep s y → y.length ≤ 0) : IsTw s [] := by
  refine ⟨.inl rfl, fun z hz => ?_⟩
  have : z = [] := List.eq_nil_of_length_eq_zero (by have := h z hz; omega)
  subst this
  exact .inr ⟨rfl, irr _⟩
end Sm
end Go.Proofs.Ytapjodbaaejldaa
