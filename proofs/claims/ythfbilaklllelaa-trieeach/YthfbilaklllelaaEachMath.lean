/-
Plain mathematics of hits: each pattern's positions, how many hits there are, and their order.
-/
import Derived.Test.YthfbilaklllelaaTrieNested
import Derived.Test.YthfbilaklllelaaFind
namespace Go.Proofs.Ythfbilaklllelaa
open Go.RowKit

theorem pre_stands {s p : ByteArray} {a : Nat} (ha : a ≤ s.size) : Lib.hasPrefix (s.extract a s.size).data.toList p.data.toList = true ↔ Stands s p a := by
  unfold Lib.hasPrefix
  rw [List.isPrefixOf_iff_prefix, List.prefix_iff_getElem]
  have hl : (s.extract a s.size).data.toList.length = s.size - a := by rw [size_list, size_ext]; omega
  have hb : ∀ {x : ByteArray} {t : Nat} (h : t < x.data.toList.length), x.data.toList[t] = byt x t := by
    intro x t h
    unfold byt
    rw [List.getD_eq_getElem?_getD, List.getElem?_eq_getElem h]
    rfl
  constructor
  · rintro ⟨h, k⟩
    rw [hl, size_list] at h
    refine ⟨by omega, fun t ht => ?_⟩
    have := k t (by rw [size_list]; exact ht)
    rw [hb, hb, byt_ext (by omega)] at this
    exact this
  · intro h
    have h1 := h.1
    refine ⟨by rw [hl, size_list]; omega, fun t ht => ?_⟩
    rw [size_list] at ht
    rw [hb, hb, byt_ext (by omega)]
    exact h.2 t ht
/-- Where p stands twice, d apart, d is a period. -/
theorem stands_per {s p : ByteArray} {x d : Nat} (h : Stands s p x) (k : Stands s p (x + d)) (hd : d < p.size) : ((p.extract d p.size).toList == (p.extract 0 (p.size - d)).toList) = true := by
  apply beq_true
  rw [size_ext, size_ext]
  refine ⟨by omega, fun i hi => ?_⟩
  rw [byt_ext (by omega), byt_ext (by omega), Nat.zero_add, h.2 (d + i) (by omega), k.2 i (by omega)]
  congr 1; omega
theorem stands_iff {s p : ByteArray} {a : Nat} (ha : a ≤ s.size) : Stands s p a ↔ wd p <+: (wd s).drop a := by
  rw [← pre_stands ha, ← wd_drop]
  unfold Lib.hasPrefix
  exact List.isPrefixOf_iff_prefix

/-- How many of the first k positions of l begin with p. -/
def cnt (l p : (List UInt8)) (k : Nat) : Nat := ((List.range k).filter fun a => decide (p <+: l.drop a)).length
theorem fiL_cnt {s p : ByteArray} (h0 : 0 < p.size) : (fiL s p).length = cnt (wd s) (wd p) s.size := by
  have e : fiL s p = ((List.range s.size).filter fun a => decide (wd p <+: (wd s).drop a)).map fun a : Nat => (a : Int) := by
    refine sorted_unique (· < ·) (fun a b h1 h2 => by omega) _ _ ?_ ?_ ?_
    · rw [List.pairwise_iff_getElem]
      intro i j hi hj hij
      have := fiL_rise hij hj
      rw [getD_lt hi, getD_lt hj] at this
      exact this
    · rw [List.pairwise_map, List.pairwise_filter]
      exact List.pairwise_lt_range.imp (fun h _ _ => by omega)
    · intro x
      rw [List.mem_map]
      constructor
      · intro hx
        obtain ⟨i, hi, rfl⟩ := List.mem_iff_getElem.1 hx
        obtain ⟨y, hy, hst⟩ := fiL_get hi
        rw [getD_lt hi] at hy
        have hlt : y < s.size := by have := hst.1; omega
        exact ⟨y, List.mem_filter.2 ⟨List.mem_range.2 hlt, decide_eq_true ((stands_iff (by omega)).1 hst)⟩, hy.symm⟩
      · rintro ⟨a, ha, rfl⟩
        obtain ⟨h1, h2⟩ := List.mem_filter.1 ha
        have h1' := List.mem_range.1 h1
        obtain ⟨k, hk, e⟩ := fiL_find ((stands_iff (by omega)).2 (of_decide_eq_true h2))
        rw [getD_lt hk] at e
        rw [← e]
        exact List.getElem_mem hk
  rw [e, List.length_map]
  rfl

/-- f 0 + .. + f (n - 1). -/
def sumN (f : Nat → Nat) : Nat → Nat
  | 0 => 0
  | n + 1 => sumN f n + f n
theorem sumN_add (f h : Nat → Nat) : ∀ n, sumN (fun k => f k + h k) n = sumN f n + sumN h n
  | 0 => rfl
  | n + 1 => by
    unfold sumN
    rw [sumN_add f h n]
    omega
theorem sumN_zero : ∀ n, sumN (fun _ => 0) n = 0
  | 0 => rfl
  | n + 1 => by unfold sumN; rw [sumN_zero n]
theorem begins_sum (g : Nat → ByteArray) (l : (List UInt8)) : ∀ n, (begins g n l).length = sumN (fun k => if wd (g k) <+: l then 1 else 0) n
  | 0 => rfl
  | n + 1 => by
    unfold begins sumN
    rw [List.range_succ, List.filter_append, List.length_append, ← begins_sum g l n]
    unfold begins
    congr 1
    by_cases h : wd (g n) <+: l <;> simp [h]
theorem cnt_next (l p : (List UInt8)) (k : Nat) : cnt l p (k + 1) = cnt l p k + if p <+: l.drop k then 1 else 0 := by
  unfold cnt
  rw [List.range_succ, List.filter_append, List.length_append]
  congr 1
  by_cases h : p <+: l.drop k <;> simp [h]
theorem hits_sum (g : Nat → ByteArray) (n : Nat) (l : (List UInt8)) : ∀ k, (hitsL g n l k).length = sumN (fun j => cnt l (wd (g j)) k) n
  | 0 => by
    have : (fun j => cnt l (wd (g j)) 0) = fun _ => 0 := by funext j; rfl
    rw [this, sumN_zero]
    rfl
  | k + 1 => by
    have : (fun j => cnt l (wd (g j)) (k + 1)) = fun j => cnt l (wd (g j)) k + if wd (g j) <+: l.drop k then 1 else 0 := by funext j; exact cnt_next _ _ _
    rw [this, sumN_add, ← hits_sum g n l k, hitsL_next, List.length_append, List.length_map, begins_sum]

/-- The order of hits. -/
theorem hits_rise (g : Nat → ByteArray) (n : Nat) (l : (List UInt8)) (k : Nat) : (hitsL g n l k).Pairwise fun x y => x.1 < y.1 ∨ (x.1 = y.1 ∧ x.2 < y.2) := by
  unfold hitsL
  rw [List.pairwise_flatMap]
  constructor
  · intro a _
    rw [List.pairwise_map]
    unfold begins
    rw [List.pairwise_filter]
    exact List.pairwise_lt_range.imp (fun h _ _ => .inr ⟨rfl, h⟩)
  · refine List.pairwise_lt_range.imp ?_
    intro a b hab x hx y hy
    obtain ⟨_, _, rfl⟩ := List.mem_map.1 hx
    obtain ⟨_, _, rfl⟩ := List.mem_map.1 hy
    exact .inl hab
theorem hits_lt {g : Nat → ByteArray} {n : Nat} {l : (List UInt8)} {k i : Nat} (hi : i + 1 < (hitsL g n l k).length) :
    ((hitsL g n l k).getD i (0, 0)).1 < ((hitsL g n l k).getD (i + 1) (0, 0)).1 ∨ (((hitsL g n l k).getD i (0, 0)).1 = ((hitsL g n l k).getD (i + 1) (0, 0)).1 ∧ ((hitsL g n l k).getD i (0, 0)).2 < ((hitsL g n l k).getD (i + 1) (0, 0)).2) := by
  rw [getD_lt (by omega), getD_lt hi]
  exact List.pairwise_iff_getElem.1 (hits_rise g n l k) i (i + 1) (by omega) hi (by omega)
theorem hits_has {g : Nat → ByteArray} {n : Nat} {l : (List UInt8)} {k a j : Nat} (ha : a < k) (hj : j < n) (hp : wd (g j) <+: l.drop a) : ∃ i, i < (hitsL g n l k).length ∧ (hitsL g n l k).getD i (0, 0) = (a, j) := by
  have hm : (a, j) ∈ hitsL g n l k := mem_hitsL.2 ⟨ha, hj, hp⟩
  obtain ⟨i, hi, e⟩ := List.mem_iff_getElem.1 hm
  exact ⟨i, hi, by rw [getD_lt hi]; exact e⟩
end Go.Proofs.Ythfbilaklllelaa
