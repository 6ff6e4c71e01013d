/-
Plain mathematics: the ends of a word at the beginnings of its Lyndon words fall. No program is named here.
-/
import Derived.Test.YtcnfdmpggnhlgaaSufMath
namespace Go.Proofs.Ytcnfdmpggnhlgaa
namespace Sm
open Lm

/-- An end of a Lyndon word, whatever follows, is greater than words none of which is greater than that Lyndon word. -/
theorem end_gt {w : List UInt8} (hw : Lyn w) (t : List UInt8) : ∀ (vs : List (List UInt8)) (u v : List UInt8), w = u ++ v → u ≠ [] → v ≠ [] → (∀ x, x ∈ vs → ¬ w < x) → vs.flatten < v ++ t
  | [], u, v, _, _, hv, _ => by
    cases v with
    | nil => exact absurd rfl hv
    | cons c v => exact List.nil_lt_cons _ _
  | x :: vs, u, v, e, hu, hv, h => by
    have h1 : w < v := hw.end_ e hu hv
    have h2 : x < v := le_lt (h x List.mem_cons_self) h1
    rw [List.flatten_cons]
    by_cases hp : ∃ y, v = x ++ y
    · obtain ⟨y, hy⟩ := hp
      have hyn : y ≠ [] := by rintro rfl; rw [List.append_nil] at hy; rw [hy] at h2; exact irr _ h2
      have := end_gt hw t vs (u ++ x) y (by rw [e, hy, List.append_assoc]) (by simp [hu]) hyn fun z hz => h z (List.mem_cons_of_mem _ hz)
      rw [hy, List.append_assoc]
      exact app_lt_app x this
    · exact lt_app h2 hp _ _
/-- What is left behind the first Lyndon word is less than the whole. -/
theorem fact_fall : ∀ {ws : List (List UInt8)} {w : List UInt8} {s : List UInt8}, Fact s (w :: ws) → ws.flatten < s
  | [], w, s, h => by
    have := h.all
    rw [← this]
    have hn := (h.lyn w List.mem_cons_self).ne
    cases w with
    | nil => exact absurd rfl hn
    | cons c w => exact List.nil_lt_cons _ _
  | x :: vs, w, s, h => by
    have hall := h.all
    rw [List.flatten_cons] at hall
    have hf := List.pairwise_cons.1 h.falls
    have ih := fact_fall h.tail
    have hx := hf.1 x List.mem_cons_self
    have hl := h.lyn w List.mem_cons_self
    rw [← hall]
    rw [List.flatten_cons] at ih ⊢
    by_cases he : x = w
    · subst he
      exact app_lt_app x ih
    · have hlt : x < w := by
        by_cases hc : x < w
        · exact hc
        · exact absurd (tri hc hx) he
      by_cases hp : ∃ y, w = x ++ y
      · obtain ⟨y, hy⟩ := hp
        have hyn : y ≠ [] := by rintro rfl; rw [List.append_nil] at hy; exact he hy.symm
        have hxn : x ≠ [] := (h.lyn x (by simp)).ne
        have := end_gt hl (x ++ vs.flatten) vs x y hy hxn hyn fun z hz => hf.1 z (List.mem_cons_of_mem _ hz)
        conv => rhs; rw [hy]
        rw [List.append_assoc]
        exact app_lt_app x this
      · exact lt_app hlt hp _ _
theorem Fact.dropped {s : List UInt8} {ws : List (List UInt8)} (h : Fact s ws) : ∀ j, Fact (ws.drop j).flatten (ws.drop j)
  | 0 => by rw [List.drop_zero]; have := h.all; rw [this]; exact h
  | j + 1 => by
    have ih := Fact.dropped h j
    cases e : ws.drop j with
    | nil =>
      have hl := congrArg List.length e
      rw [List.length_drop, List.length_nil] at hl
      rw [List.drop_eq_nil_of_le (by omega)]
      rw [e] at ih
      exact ih
    | cons w vs =>
      rw [e] at ih
      have : ws.drop (j + 1) = vs := by rw [← List.drop_drop, e]; rfl
      rw [this]
      exact ih.tail
/-- Where the walk along the Lyndon words stands: j of them are behind, p bytes; L: the place in order of the end that the last one began. -/
structure LsAt (s : List UInt8) (ws : List (List UInt8)) (j p L : Nat) : Prop where
  rest : s.drop p = (ws.drop j).flatten
  le : p ≤ s.length
  last : (j = 0 ∧ L = s.length) ∨ (0 < j ∧ L < s.length ∧ X s L = (ws.drop (j - 1)).flatten)
theorem ls_start {s : List UInt8} {ws : List (List UInt8)} (h : Fact s ws) : LsAt s ws 0 0 s.length := ⟨by rw [List.drop_zero, List.drop_zero, h.all], Nat.zero_le _, .inl ⟨rfl, rfl⟩⟩
theorem ls_step {s : List UInt8} {ws : List (List UInt8)} {j p L : Nat} (hf : Fact s ws) (h : LsAt s ws j p L) (hj : j < ws.length) :
    ∃ k, k < s.length ∧ sa s k = p ∧ k < L ∧ LsAt s ws (j + 1) (p + ws[j].length) k := by
  have hd : ws.drop j = ws[j] :: ws.drop (j + 1) := (List.drop_eq_getElem_cons hj)
  have hne := (hf.lyn _ (List.getElem_mem hj)).ne
  have hr := h.rest
  rw [hd, List.flatten_cons] at hr
  have hl := congrArg List.length hr
  rw [List.length_drop, List.length_append] at hl
  have h0 := List.length_pos_iff.2 hne
  obtain ⟨k, hk, hsa⟩ := rank (s := s) (p := p) (by omega)
  have hX : X s k = (ws.drop j).flatten := by unfold X; rw [hsa]; exact h.rest
  refine ⟨k, hk, hsa, ?_, ⟨?_, by omega, .inr ⟨by omega, hk, by rw [Nat.add_sub_cancel]; exact hX⟩⟩⟩
  · rcases h.last with ⟨_, e⟩ | ⟨h1, h2, h3⟩
    · omega
    · rw [← X_lt_iff hk h2, hX, h3]
      obtain ⟨i, rfl⟩ : ∃ i, j = i + 1 := ⟨j - 1, by omega⟩
      rw [Nat.add_sub_cancel]
      have hfd := Fact.dropped hf i
      have hdi : ws.drop i = ws[i] :: ws.drop (i + 1) := (List.drop_eq_getElem_cons (by omega))
      have := fact_fall (ws := ws.drop (i + 1)) (w := ws[i]) (s := (ws.drop i).flatten) (by rw [← hdi]; exact hfd)
      exact this
  · rw [← List.drop_drop, hr, List.drop_left]
theorem ls_end {s : List UInt8} {ws : List (List UInt8)} {p L : Nat} (hf : Fact s ws) (h : LsAt s ws ws.length p L) (hn : 0 < ws.length) : p = s.length ∧ L = 0 := by
  have hr := h.rest
  rw [List.drop_length, List.flatten_nil] at hr
  have hl := congrArg List.length hr
  rw [List.length_drop, List.length_nil] at hl
  have := h.le
  refine ⟨by omega, ?_⟩
  rcases h.last with ⟨e, _⟩ | ⟨_, h2, h3⟩
  · omega
  · have hd : ws.drop (ws.length - 1) = [ws[ws.length - 1]] := by
      rw [List.drop_eq_getElem_cons (by omega), show ws.length - 1 + 1 = ws.length by omega, List.drop_length]
    rw [hd, List.flatten_cons, List.flatten_nil, List.append_nil] at h3
    have hlast : ws.getLast? = some ws[ws.length - 1] := by rw [List.getLast?_eq_getElem?, List.getElem?_eq_getElem (by omega)]
    by_cases h0 : L = 0
    · exact h0
    · exfalso
      have hlt : X s 0 < X s L := X_lt (by omega) h2
      have h4 : 0 < s.length := by omega
      have h5 := sa_lt h4
      refine hf.last_le (u := s.take (sa s 0)) (v := X s 0) hlast (by unfold X; rw [List.take_append_drop]) ?_ (h3 ▸ hlt)
      intro e
      have := congrArg List.length e
      rw [X_len, List.length_nil] at this
      omega
end Sm
end Go.Proofs.Ytcnfdmpggnhlgaa
