/-
Rows of strings of the program's own: appending one, sorting them.
-/
import Derived.Test.YthfbilaklllelaaTrieMath
import Derived.Test.YthfbilaklllelaaSortI
namespace Go.Proofs.Ythfbilaklllelaa
open Go.RowKit

/-- v is a slice of the call's own that holds the strings N. -/
def OwnW (w : World) (base : Nat) (v : Value) (N : List (List UInt8)) : Prop := w.ownsRow base 9 1 v N.length (N.map Go.Proofs.encStr)
theorem OwnW.zero (w : World) (base : Nat) : OwnW w base (.slice none 0 0) [] := World.ownsRow_nil w base _ 1
theorem enc_wd (s : ByteArray) : Go.Proofs.encStr (wd s) = .string s := by
  show Value.string ⟨(wd s).toArray⟩ = _
  unfold wd
  cases s
  simp
theorem Try.infoStr : (Try.prog.info? 9).map (fun i => (i.zero, i.size, i.bytes)) = some (some (.string ⟨#[]⟩), 1, 16) := by kernel_rfl
theorem app_wd {ops : Array Oper} {rest : List Oper} {o : Oper} {a : Act} {Q : Exit → Act → World → Prop} {wr : World} {N : List (List UInt8)} {x : ByteArray} {v : Value} {base : Nat} (hgd : o.guard = none) (s z : Operand)
    (ho : o.op = .call { callee := .builtin .append, args := #[s, z], argTypes := #[22, 22] })
    (hs : a.eval s = v) (hown : OwnW wr base v N) (M : Nat) (hM : wr.heap.size = M) (hx : a.eval z = .slice (some ⟨M, 0, none⟩) 1 1)
    (hbase : base ≤ M) (hlen : N.length < 1000000)
    (h : ∀ v' w', OwnW w' base v' (N ++ [wd x]) → Below base wr w' → wpList Try.prog ops Q rest (a.put o.dst v') w') :
    wpList Try.prog ops Q (o :: rest) a (wr.alloc (.cells #[.string x] 9)) := by
  subst hM
  obtain ⟨i0, hi, hz0, hz1, hz2⟩ := info_parts Try.infoStr
  refine wpList_append_own _ hgd s z 22 ho base 9 i0 (.string ⟨#[]⟩) 1 16 Try.underlying22 hi hz0 hz1 hz2 rfl (by decide) v _ _ hs (World.ownsRow.alloc hown _) ⟨wr.heap.size, 0, none⟩ 1 1 [.string x] hx rfl ?_ ?_ ?_ ?_ ?_ ?_
  · intro j u hj
    match j, hj with
    | 0, hj => simp at hj; subst hj; simp [Addr.add]
  · intro u hu; simp at hu; subst hu; rfl
  · unfold maxLen; omega
  · omega
  · simp; omega
  · intro v' w' h1 h2 _
    refine h v' w' ?_ ?_
    · unfold OwnW
      rw [List.map_append, List.length_append]
      have e : [wd x].map Go.Proofs.encStr = [.string x] := by rw [List.map_singleton, enc_wd]
      rw [e]
      exact h1
    · have hb : Below base wr (wr.alloc (.cells #[.string x] 9)) := (Below.refl _ _).alloc hbase _
      exact hb.grown h2 (by simp; omega) fun k hk => ((World.ownsRow.lt hown k hk).1)

theorem sort_own_s (w : World) (base : Nat) (v : Value) (L : List (List UInt8)) (hown : OwnW w base v L) (hl : L.length < 1000000) (hb : base ≤ w.heap.size) :
    Calls Try.prog 14 #[v] w fun e w' => e = .returned (.tuple #[]) ∧ OwnW w' base v (L.mergeSort fun x y => decide (x ≤ y)) ∧ Below base w w' := by
  have hlen : (L.mergeSort fun x y => decide (x ≤ y)).length = L.length := (List.mergeSort_perm _ _).length_eq
  rcases hown.2 with ⟨rfl, h0⟩ | ⟨g, cap, cur, rfl, h1, h2, h3, h4, h5, h6⟩
  · have hL : L = [] := by simpa using h0
    subst hL
    refine (Try.slices_Sort_string_none none 0 w).mono ?_
    rintro e w1 ⟨rfl, rfl⟩
    exact ⟨rfl, by simpa using hown, Below.refl _ _⟩
  · rw [Nat.mul_one] at h6
    refine (Try.slices_Sort_string g 0 cap L w (holds_of_block h2 h6) (Array.getElem?_eq_some_iff.1 h2).1 (by omega)).mono ?_
    rintro e w1 ⟨rfl, n, os, rfl⟩
    refine ⟨rfl, ?_, ?_⟩
    · have := ownsRow_sorted (n := n) (os := os) hlen h1 h2 h3 h4 h5
      unfold OwnW
      rw [hlen]
      exact this
    · refine (Below.refl base w).grown (grownBy_sorted (n := n) (os := os) _) hb ?_
      intro k hk
      injection hk with hk
      omega

theorem OwnW.row {w : World} {base : Nat} {v : Value} {N : List (List UInt8)} (h : OwnW w base v N) : ∃ A c, v = .slice A N.length c ∧ ∀ k, k < N.length → ∃ b o, A = some ⟨b, o, none⟩ ∧ b < w.heap.size ∧ w.cell? ⟨b, o + k, none⟩ = some (Go.Proofs.encStr (N.getD k [])) := by
  have hcell := fun g cap (e : v = .slice (some ⟨g, 0, none⟩) N.length cap) (k : Nat) (hk : k < N.length) => World.ownsRow.cellAt (e ▸ h) k (by omega)
  have hlt := World.ownsRow.lt h
  rcases h.2 with ⟨rfl, h0⟩ | ⟨g, cap, cur, rfl, _⟩
  · exact ⟨none, 0, by rw [h0], fun k hk => by omega⟩
  · refine ⟨some ⟨g, 0, none⟩, cap, rfl, fun k hk => ⟨g, 0, rfl, (hlt g rfl).2, ?_⟩⟩
    rw [Nat.zero_add, hcell g cap rfl k hk, getD_lt hk]
    simp [List.getElem?_eq_getElem hk]

/-- The words of the first j patterns that begin with f. -/
def namesL (g : Nat → ByteArray) (f : (List UInt8)) (j : Nat) : List (List UInt8) := ((List.range j).filter fun k => decide (f <+: wd (g k))).map fun k => wd (g k)
theorem namesL_yes {g : Nat → ByteArray} {f : (List UInt8)} {j : Nat} (h : f <+: wd (g j)) : namesL g f (j + 1) = namesL g f j ++ [wd (g j)] := by
  unfold namesL
  rw [List.range_succ, List.filter_append, List.map_append]
  simp [h]
theorem namesL_no {g : Nat → ByteArray} {f : (List UInt8)} {j : Nat} (h : ¬ f <+: wd (g j)) : namesL g f (j + 1) = namesL g f j := by
  unfold namesL
  rw [List.range_succ, List.filter_append, List.map_append]
  simp [h]
theorem namesL_len (g : Nat → ByteArray) (f : (List UInt8)) (j : Nat) : (namesL g f j).length ≤ j := by
  unfold namesL
  rw [List.length_map]
  refine Nat.le_trans (List.length_filter_le _ _) (by simp)
theorem lex_le_trans (a b c : (List UInt8)) (h1 : decide (a ≤ b) = true) (h2 : decide (b ≤ c) = true) : decide (a ≤ c) = true := by
  refine decide_eq_true ?_
  exact List.le_trans (of_decide_eq_true h1) (of_decide_eq_true h2)
theorem Good.names {g : Nat → ByteArray} {n : Nat} (h : Good g n) (f : (List UInt8)) : FrontQ g n f ((namesL g f n).mergeSort fun x y => decide (x ≤ y)) := by
  have hp := List.mergeSort_perm (namesL g f n) (fun x y => decide (x ≤ y))
  have hs := List.pairwise_mergeSort (le := fun x y : (List UInt8) => decide (x ≤ y)) lex_le_trans (fun a b => by simp; exact List.le_total a b) (namesL g f n)
  have hd0 : (namesL g f n).Pairwise (· ≠ ·) := by
    unfold namesL
    rw [List.pairwise_map, List.pairwise_filter]
    refine List.Pairwise.imp_of_mem ?_ List.pairwise_lt_range
    intro a b ha hb hab _ _ e
    have := h.inj (List.mem_range.1 ha) (List.mem_range.1 hb) e
    omega
  have hd : ((namesL g f n).mergeSort (fun x y => decide (x ≤ y))).Pairwise (· ≠ ·) := (hp.pairwise_iff (fun h => Ne.symm h)).2 hd0
  refine ⟨?_, fun q => ?_⟩
  · refine (hs.and hd).imp ?_
    rintro a b ⟨h1, h2⟩
    rcases List.le_iff_lt_or_eq.1 (of_decide_eq_true h1) with h3 | h3
    · exact h3
    · exact absurd h3 h2
  · rw [hp.mem_iff]
    unfold namesL
    rw [List.mem_map]
    constructor
    · rintro ⟨k, hk, rfl⟩
      obtain ⟨h1, h2⟩ := List.mem_filter.1 hk
      exact ⟨k, List.mem_range.1 h1, rfl, of_decide_eq_true h2⟩
    · rintro ⟨k, hk, rfl, hpre⟩
      exact ⟨k, List.mem_filter.2 ⟨List.mem_range.2 hk, decide_eq_true hpre⟩, rfl⟩
end Go.Proofs.Ythfbilaklllelaa
