/-
Rows of words of the program's own: appending one, sorting them, striking out what stands twice.
-/
import Derived.Test.YtgeikpfbgdgciaaShared
import Derived.Test.YtgeikpfbgdgciaaUnMath
import Derived.Test.YtgeikpfbgdgciaaShelfW
import Derived.Sort.OwnSorted
namespace Go.Proofs.Ytgeikpfbgdgciaa
open Go.RowKit

/-- A word as a string. -/
def mkS (l : List UInt8) : ByteArray := ⟨l.toArray⟩
theorem lst_mk (l : List UInt8) : lst (mkS l) = l := by unfold lst mkS; simp
theorem mk_lst (s : ByteArray) : mkS (lst s) = s := by unfold lst mkS; cases s; simp
theorem enc_mk (l : List UInt8) : Go.Proofs.encStr l = .string (mkS l) := rfl
theorem enc_lst (s : ByteArray) : Go.Proofs.encStr (lst s) = .string s := by rw [enc_mk, mk_lst]
theorem mk_size (l : List UInt8) : (mkS l).size = l.length := by rw [← lst_len, lst_mk]
/-- v is a slice of the call's own that holds the words N. -/
def OwnL (w : World) (base : Nat) (v : Value) (N : List (List UInt8)) : Prop := w.ownsRow base 9 1 v N.length (N.map Go.Proofs.encStr)
theorem OwnL.zero (w : World) (base : Nat) : OwnL w base (.slice none 0 0) [] := World.ownsRow_nil w base _ 1
theorem OwnL.drewN {w : World} {base : Nat} {v : Value} {L : List (List UInt8)} (h : OwnL w base v L) (d : Nat) : OwnL (w.drewN d) base v L := h
theorem Try.infoStr' : (Try.prog.info? 9).map (fun i => (i.zero, i.size, i.bytes)) = some (some (.string ⟨#[]⟩), 1, 16) := by kernel_rfl
theorem app_lst {ops : Array Oper} {rest : List Oper} {o : Oper} {a : Act} {Q : Exit → Act → World → Prop} {wr : World} {N : List (List UInt8)} {x : ByteArray} {v : Value} {base : Nat} (hgd : o.guard = none) (s z : Operand)
    (ho : o.op = .call { callee := .builtin .append, args := #[s, z], argTypes := #[50, 50] })
    (hs : a.eval s = v) (hown : OwnL wr base v N) (M : Nat) (hM : wr.heap.size = M) (hx : a.eval z = .slice (some ⟨M, 0, none⟩) 1 1)
    (hbase : base ≤ M) (hlen : N.length < 1000000)
    (h : ∀ v' w', OwnL w' base v' (N ++ [lst x]) → Below base wr w' → wpList Try.prog ops Q rest (a.put o.dst v') w') :
    wpList Try.prog ops Q (o :: rest) a (wr.alloc (.cells #[.string x] 9)) := by
  subst hM
  obtain ⟨i0, hi, hz0, hz1, hz2⟩ := info_parts Try.infoStr'
  refine wpList_append_own _ hgd s z 50 ho base 9 i0 (.string ⟨#[]⟩) 1 16 Try.underlying50 hi hz0 hz1 hz2 rfl (by decide) v _ _ hs (World.ownsRow.alloc hown _) ⟨wr.heap.size, 0, none⟩ 1 1 [.string x] hx rfl ?_ ?_ ?_ ?_ ?_ ?_
  · intro j u hj
    match j, hj with
    | 0, hj => simp at hj; subst hj; simp [Addr.add]
  · intro u hu; simp at hu; subst hu; rfl
  · unfold maxLen; omega
  · omega
  · simp; omega
  · intro v' w' h1 h2 _
    refine h v' w' ?_ ?_
    · unfold OwnL
      rw [List.map_append, List.length_append]
      have e : [lst x].map Go.Proofs.encStr = [.string x] := by rw [List.map_singleton, enc_lst]
      rw [e]
      exact h1
    · have hb : Below base wr (wr.alloc (.cells #[.string x] 9)) := (Below.refl _ _).alloc hbase _
      exact hb.grown h2 (by simp; omega) fun k hk => ((World.ownsRow.lt hown k hk).1)
/-- The words in order. -/
def srt (L : List (List UInt8)) : List (List UInt8) := L.mergeSort fun x y => decide (x ≤ y)
theorem srt_perm (L : List (List UInt8)) : (srt L).Perm L := List.mergeSort_perm _ _
theorem srt_len (L : List (List UInt8)) : (srt L).length = L.length := (srt_perm L).length_eq
theorem srt_up (L : List (List UInt8)) : (srt L).Pairwise fun a b => ¬ b < a := by
  have hs := List.pairwise_mergeSort (le := fun x y : (List UInt8) => decide (x ≤ y)) (fun a b c h1 h2 => decide_eq_true (List.le_trans (of_decide_eq_true h1) (of_decide_eq_true h2))) (fun a b => by simp; exact List.le_total a b) L
  exact hs.imp fun h => of_decide_eq_true h
theorem sort_lst (w : World) (base : Nat) (v : Value) (L : List (List UInt8)) (hown : OwnL w base v L) (hl : L.length < 1000000) (hb : base ≤ w.heap.size) :
    Calls Try.prog 33 #[v] w fun e w' => e = .returned (.tuple #[]) ∧ OwnL w' base v (srt L) ∧ Below base w w' := by
  have hlen := srt_len L
  rcases hown.2 with ⟨rfl, h0⟩ | ⟨g, cap, cur, rfl, h1, h2, h3, h4, h5, h6⟩
  · have hL : L = [] := by simpa using h0
    subst hL
    refine (Try.slices_Sort_string_none none 0 w).mono ?_
    rintro e w1 ⟨rfl, rfl⟩
    exact ⟨rfl, by simpa [srt] using hown, Below.refl _ _⟩
  · rw [Nat.mul_one] at h6
    refine (Try.slices_Sort_string g 0 cap L w (holds_of_block h2 h6) (Array.getElem?_eq_some_iff.1 h2).1 (by omega)).mono ?_
    rintro e w1 ⟨rfl, n, os, rfl⟩
    refine ⟨rfl, ?_, ?_⟩
    · have := ownsRow_sorted (n := n) (os := os) hlen h1 h2 h3 h4 h5
      unfold OwnL
      rw [hlen]
      exact this
    · refine (Below.refl base w).grown (grownBy_sorted (n := n) (os := os) _) hb ?_
      intro k hk
      injection hk with hk
      omega
/-- The first n cells at A hold the words g 0, g 1, .. -/
def LRow (w : World) (A : Option Addr) (n : Nat) (g : Nat → List UInt8) : Prop :=
  ∀ k, k < n → ∃ b o, A = some ⟨b, o, none⟩ ∧ b < w.heap.size ∧ w.cell? ⟨b, o + k, none⟩ = some (.string (mkS (g k)))
theorem LRow.keep {w w' : World} {A : Option Addr} {n : Nat} {g : Nat → List UInt8} (h : LRow w A n g) (hb : Below w.heap.size w w') : LRow w' A n g := by
  intro k hk
  obtain ⟨b, o, rfl, hlt, hc⟩ := h k hk
  exact ⟨b, o, rfl, Nat.lt_of_lt_of_le hlt hb.size, (hb.cell (p := ⟨b, o + k, none⟩) hlt).trans hc⟩
theorem OwnL.row {w : World} {base : Nat} {v : Value} {N : List (List UInt8)} (h : OwnL w base v N) : ∃ A c, v = .slice A N.length c ∧ LRow w A N.length (fun k => N.getD k []) := by
  have hcell := fun g cap (e : v = .slice (some ⟨g, 0, none⟩) N.length cap) (k : Nat) (hk : k < N.length) => World.ownsRow.cellAt (e ▸ h) k (by omega)
  have hlt := World.ownsRow.lt h
  rcases h.2 with ⟨rfl, h0⟩ | ⟨g, cap, cur, rfl, _⟩
  · exact ⟨none, 0, by rw [h0], fun k hk => by omega⟩
  · refine ⟨some ⟨g, 0, none⟩, cap, rfl, fun k hk => ⟨g, 0, rfl, (hlt g rfl).2, ?_⟩⟩
    rw [Nat.zero_add, hcell g cap rfl k hk, ← enc_mk]
    simp [List.getElem?_eq_getElem hk, List.getD_eq_getElem?_getD]

theorem compact_row (w : World) (base : Nat) (v : Value) (L : List (List UInt8)) (hown : OwnL w base v L) (hl : L.length < 1000000) (hb : base ≤ w.heap.size) :
    Calls Try.prog 34 #[v] w fun e w' => (∃ A c, e = .returned (.slice A (Lib.compact L).length c) ∧ LRow w' A (Lib.compact L).length (fun k => (Lib.compact L).getD k [])) ∧ Below base w w' := by
  rcases hown.2 with ⟨rfl, h0⟩ | ⟨g, cap, cur, rfl, h1, h2, h3, h4, h5, h6⟩
  · have hL : L = [] := by simpa using h0
    subst hL
    refine (Try.slices_Compact_string_empty none 0 w).mono ?_
    rintro e w1 ⟨rfl, rfl⟩
    exact ⟨⟨none, 0, rfl, fun k hk => absurd hk (Nat.not_lt_zero k)⟩, Below.refl _ _⟩
  · rw [Nat.mul_one] at h6
    refine (Try.slices_Compact_string g 0 cap L w (holds_of_block h2 h6) (by omega) h3).mono ?_
    rintro e w1 ⟨rfl, n, rfl⟩
    have hle : (Lib.compact L).length ≤ L.length := by
      unfold Lib.compact Lib.compactUpTo
      rw [List.length_map]
      exact Nat.le_trans (List.length_filter_le _ _) (by simp)
    obtain ⟨M, hM⟩ : ∃ M, M = Lib.compact L ++ List.replicate (L.length - (Lib.compact L).length) [] := ⟨_, rfl⟩
    have hMl : M.length = L.length := by rw [hM, List.length_append, List.length_replicate]; omega
    have hg := grownBy_sorted (w := w) (g := g) (n := n) (os := #[]) M.toArray
    have hown1 := ownsRow_sorted (n := n) (os := #[]) hMl h1 h2 h3 h4 h5
    rw [Sort.grow_empty] at hg hown1
    rw [← hM]
    have hown2 : OwnL (Go.Sort.putRow Go.Proofs.encStr (Go.Sort.ahead w n) g 0 M.toArray) base (.slice (some ⟨g, 0, none⟩) L.length cap) M := by
      unfold OwnL
      rw [hMl]
      exact hown1
    refine ⟨⟨_, _, rfl, ?_⟩, ?_⟩
    · obtain ⟨A, c, e, hrow⟩ := hown2.row
      injection e with e1 e2 e3
      subst e1
      intro k hk
      obtain ⟨b, o, h7, h8, h9⟩ := hrow k (by omega)
      refine ⟨b, o, h7, h8, ?_⟩
      rw [h9]
      have : M.getD k [] = (Lib.compact L).getD k [] := by
        rw [hM, List.getD_eq_getElem?_getD, List.getElem?_append_left hk, ← List.getD_eq_getElem?_getD]
      show some (Value.string (mkS (M.getD k []))) = _
      rw [this]
    · refine (Below.refl base w).grown hg hb ?_
      intro k hk
      injection hk with hk
      omega
theorem compact_lst (w : World) (base : Nat) (v : Value) (L : List (List UInt8)) (hown : OwnL w base v L) (hl : L.length < 1000000) (hb : base ≤ w.heap.size) :
    Calls Try.prog 34 #[v] w fun e w' => (∃ A c, e = .returned (.slice A (Lib.compact L).length c)) ∧ Below base w w' := by
  refine (compact_row w base v L hown hl hb).mono ?_
  rintro e w1 ⟨⟨A, c, h1, _⟩, h2⟩
  exact ⟨⟨A, c, h1⟩, h2⟩
/-- A rising list in which each word stands once has as many words as there are in the list that was struck out. -/
theorem compact_is (d : Array (List UInt8)) : ∀ m, m ≤ d.size → (∀ i j, i < j → j < m → ¬ d[j]! < d[i]!) → (Lib.compactUpTo d m).Pairwise (· < ·) ∧ ∀ x, x ∈ Lib.compactUpTo d m ↔ ∃ j, j < m ∧ d[j]! = x
  | 0, _, _ => by simp [Lib.compactUpTo]
  | m + 1, hm, hs => by
    obtain ⟨ih1, ih2⟩ := compact_is d m (by omega) fun i j h1 h2 => hs i j h1 (by omega)
    rw [Lib.compactUpTo_succ]
    by_cases hk : Lib.keeps d m = true
    · rw [if_pos hk]
      refine ⟨?_, fun x => ?_⟩
      · rw [List.pairwise_append]
        refine ⟨ih1, List.pairwise_singleton _ _, fun a ha b hb => ?_⟩
        obtain ⟨j, hj, rfl⟩ := (ih2 a).1 ha
        rw [List.mem_singleton.1 hb]
        have h0 : 0 < m := by omega
        have hne : d[m - 1]! ≠ d[m]! := by
          intro e
          rw [Lib.keeps_neg h0 e.symm] at hk
          cases hk
        have h1 : d[m - 1]! < d[m]! := by
          by_cases hc : d[m - 1]! < d[m]!
          · exact hc
          · exact absurd (Sm.tri hc (hs (m - 1) m (by omega) (by omega))) hne
        rcases Nat.lt_or_ge j (m - 1) with hx | hx
        · exact Lm.le_lt (hs j (m - 1) hx (by omega)) h1
        · obtain rfl : j = m - 1 := by omega
          exact h1
      · rw [List.mem_append, ih2, List.mem_singleton]
        constructor
        · rintro (⟨j, hj, e⟩ | e)
          · exact ⟨j, by omega, e⟩
          · exact ⟨m, by omega, e.symm⟩
        · rintro ⟨j, hj, e⟩
          by_cases hx : j = m
          · subst hx; exact .inr e.symm
          · exact .inl ⟨j, by omega, e⟩
    · rw [if_neg hk, List.append_nil]
      refine ⟨ih1, fun x => ?_⟩
      rw [ih2]
      have h0 : 0 < m := by
        rcases Nat.eq_zero_or_pos m with e | e
        · subst e; exact absurd (Lib.keeps_lt_one d 0 (by omega)) hk
        · exact e
      have he : d[m]! = d[m - 1]! := by
        by_cases hc : d[m]! = d[m - 1]!
        · exact hc
        · exact absurd (Lib.keeps_pos hc) hk
      constructor
      · rintro ⟨j, hj, e⟩
        exact ⟨j, by omega, e⟩
      · rintro ⟨j, hj, e⟩
        by_cases hx : j = m
        · subst hx; exact ⟨j - 1, by omega, by rw [← he]; exact e⟩
        · exact ⟨j, by omega, e⟩
theorem compact_eq {L D : List (List UInt8)} (hD : D.Pairwise (· < ·)) (hm : ∀ x, x ∈ D ↔ x ∈ L) : Lib.compact (srt L) = D := by
  have hu := List.pairwise_iff_getElem.1 (srt_up L)
  obtain ⟨h1, h2⟩ := compact_is (srt L).toArray (srt L).length (by simp) fun i j hi hj => by
    have := hu i j (by omega) hj hi
    have hi' : i < (srt L).length := by omega
    simpa [hi', hj] using this
  refine Sm.sorted_same (R := fun a b : List UInt8 => a < b) (fun _ _ h => Sm.as_ h) (fun _ => Lm.irr _) h1 hD fun x => ?_
  rw [hm, ← (srt_perm L).mem_iff]
  refine (h2 x).trans ?_
  constructor
  · rintro ⟨j, hj, rfl⟩
    simp [hj]
  · intro hx
    obtain ⟨j, hj, e⟩ := List.getElem_of_mem hx
    exact ⟨j, hj, by simp [hj, e]⟩
theorem compact_count {L D : List (List UInt8)} (hD : D.Pairwise (· < ·)) (hm : ∀ x, x ∈ D ↔ x ∈ L) : (Lib.compact (srt L)).length = D.length := by rw [compact_eq hD hm]
end Go.Proofs.Ytgeikpfbgdgciaa
