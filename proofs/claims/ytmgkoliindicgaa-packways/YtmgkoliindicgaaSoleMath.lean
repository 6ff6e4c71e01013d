
/-
Plain mathematics on codes: the search through what may be over, as a list that grows while it is read. No program is named here.
-/
import Derived.Test.YtmgkoliindicgaaCodeDefs
namespace Go.Proofs.Ytmgkoliindicgaa
namespace Cm

/-- What comes in w after s, if w begins with s and is longer. -/
def rest? (s w : Wd) : Option Wd := if s <+: w ∧ s.length < w.length then some (w.drop s.length) else none
theorem rest_some {s w o : Wd} : rest? s w = some o ↔ o ≠ [] ∧ w = s ++ o := by
  unfold rest?
  constructor
  · intro h
    by_cases hc : s <+: w ∧ s.length < w.length
    · rw [if_pos hc] at h
      injection h with h
      subst h
      refine ⟨fun e => ?_, ?_⟩
      · have := congrArg List.length e
        rw [List.length_drop, List.length_nil] at this
        omega
      · obtain ⟨t, rfl⟩ := hc.1
        rw [List.drop_left]
    · rw [if_neg hc] at h; cases h
  · rintro ⟨h1, rfl⟩
    have := List.length_pos_iff.2 h1
    rw [if_pos ⟨List.prefix_append _ _, by rw [List.length_append]; omega⟩, List.drop_left]
/-- What comes after s in the words of W. -/
def bey (s : Wd) (W : List Wd) : List Wd := W.filterMap (rest? s)
/-- What comes in s after words of W. -/
def wit (s : Wd) (W : List Wd) : List Wd := W.filterMap fun w => rest? w s
theorem mem_bey {s o : Wd} {W : List Wd} : o ∈ bey s W ↔ o ≠ [] ∧ ∃ w ∈ W, w = s ++ o := by
  unfold bey
  rw [List.mem_filterMap]
  constructor
  · rintro ⟨w, hw, h⟩
    obtain ⟨h1, h2⟩ := rest_some.1 h
    exact ⟨h1, w, hw, h2⟩
  · rintro ⟨h1, w, hw, h2⟩
    exact ⟨w, hw, rest_some.2 ⟨h1, h2⟩⟩
theorem mem_wit {s o : Wd} {W : List Wd} : o ∈ wit s W ↔ o ≠ [] ∧ ∃ w ∈ W, s = w ++ o := by
  unfold wit
  rw [List.mem_filterMap]
  constructor
  · rintro ⟨w, hw, h⟩
    obtain ⟨h1, h2⟩ := rest_some.1 h
    exact ⟨h1, w, hw, h2⟩
  · rintro ⟨h1, w, hw, h2⟩
    exact ⟨w, hw, rest_some.2 ⟨h1, h2⟩⟩
theorem fm_snoc {f : Wd → Option Wd} {A : List Wd} {w : Wd} : (A ++ [w]).filterMap f = A.filterMap f ++ (match f w with | some o => [o] | none => []) := by
  rw [List.filterMap_append]
  congr 1
  rw [List.filterMap_cons]
  cases f w <;> rfl
theorem fm_yes {f : Wd → Option Wd} {A : List Wd} {w o : Wd} (h : f w = some o) : (A ++ [w]).filterMap f = A.filterMap f ++ [o] := by rw [fm_snoc, h]
theorem fm_no {f : Wd → Option Wd} {A : List Wd} {w : Wd} (h : f w = none) : (A ++ [w]).filterMap f = A.filterMap f := by rw [fm_snoc, h, List.append_nil]
theorem bey_len (s : Wd) (W : List Wd) : (bey s W).length ≤ W.length := List.length_filterMap_le _ _
theorem wit_len (s : Wd) (W : List Wd) : (wit s W).length ≤ W.length := List.length_filterMap_le _ _
/-- Those of M that L does not have yet, behind L. -/
def un1 (L : List Wd) (s : Wd) : List Wd := if s ∈ L then L else L ++ [s]
def un (L M : List Wd) : List Wd := M.foldl un1 L
theorem un_nil (L : List Wd) : un L [] = L := rfl
theorem un_snoc (L M : List Wd) (s : Wd) : un L (M ++ [s]) = un1 (un L M) s := by unfold un; rw [List.foldl_append]; rfl
theorem mem_un1 {L : List Wd} {s x : Wd} : x ∈ un1 L s ↔ x ∈ L ∨ x = s := by
  unfold un1
  by_cases h : s ∈ L
  · rw [if_pos h]
    exact ⟨.inl, fun h1 => h1.elim id fun e => e ▸ h⟩
  · rw [if_neg h, List.mem_append, List.mem_singleton]
theorem mem_un {x : Wd} : ∀ {M L : List Wd}, x ∈ un L M ↔ x ∈ L ∨ x ∈ M
  | [], L => by simp [un]
  | s :: M, L => by
    show x ∈ un (un1 L s) M ↔ _
    rw [mem_un (M := M), mem_un1, List.mem_cons, or_assoc]
theorem un1_nodup {L : List Wd} {s : Wd} (h : L.Nodup) : (un1 L s).Nodup := by
  unfold un1
  by_cases hs : s ∈ L
  · rw [if_pos hs]; exact h
  · rw [if_neg hs, List.nodup_append]
    refine ⟨h, by simp, ?_⟩
    rintro a ha b hb rfl
    rw [List.mem_singleton.1 hb] at ha
    exact hs ha
theorem un_nodup : ∀ {M L : List Wd}, L.Nodup → (un L M).Nodup
  | [], _, h => h
  | s :: M, L, h => by
    show (un (un1 L s) M).Nodup
    exact un_nodup (un1_nodup h)
theorem un1_pre (L : List Wd) (s : Wd) : L <+: un1 L s := by
  unfold un1
  by_cases hs : s ∈ L
  · rw [if_pos hs]; exact List.prefix_refl _
  · rw [if_neg hs]; exact List.prefix_append _ _
theorem un_pre : ∀ (M L : List Wd), L <+: un L M
  | [], _ => List.prefix_refl _
  | s :: M, L => (un1_pre L s).trans (un_pre M (un1 L s))
theorem un_len : ∀ (M L : List Wd), (un L M).length ≤ L.length + M.length
  | [], _ => Nat.le_refl _
  | s :: M, L => by
    show (un (un1 L s) M).length ≤ _
    have h := un_len M (un1 L s)
    have h1 : (un1 L s).length ≤ L.length + 1 := by
      unfold un1
      by_cases hs : s ∈ L
      · rw [if_pos hs]; omega
      · rw [if_neg hs, List.length_append]; simp
    rw [List.length_cons]
    omega
theorem pre_getD {A B : List Wd} (h : A <+: B) {k : Nat} (hk : k < A.length) : B.getD k [] = A.getD k [] := by
  obtain ⟨t, rfl⟩ := h
  rw [List.getD_eq_getElem?_getD, List.getElem?_append_left hk, ← List.getD_eq_getElem?_getD]
theorem getD_mem {A : List Wd} {k : Nat} (hk : k < A.length) : A.getD k [] ∈ A := by
  rw [List.getD_eq_getElem?_getD, List.getElem?_eq_getElem hk]
  exact List.getElem_mem hk
/-- The first round: what the words before place j leave of the others. -/
def Seeds (W L : List Wd) (j : Nat) : Prop := L.Nodup ∧ ∀ o, o ∈ L ↔ o ≠ [] ∧ ∃ a, a < j ∧ ∃ v ∈ W, v = W.getD a [] ++ o
theorem Seeds.zero (W : List Wd) : Seeds W [] 0 := ⟨List.nodup_nil, fun o => ⟨fun h => (by cases h), fun ⟨_, a, h, _⟩ => by omega⟩⟩
theorem Seeds.step {W L : List Wd} {j : Nat} (h : Seeds W L j) : Seeds W (un L (bey (W.getD j []) W)) (j + 1) := by
  refine ⟨un_nodup h.1, fun o => ?_⟩
  rw [mem_un, mem_bey, h.2]
  constructor
  · rintro (⟨h1, a, h2, h3⟩ | ⟨h1, v, h2, h3⟩)
    · exact ⟨h1, a, by omega, h3⟩
    · exact ⟨h1, j, by omega, v, h2, h3⟩
  · rintro ⟨h1, a, h2, v, h3, h4⟩
    by_cases e : a = j
    · subst e; exact .inr ⟨h1, v, h3, h4⟩
    · exact .inl ⟨h1, a, by omega, v, h3, h4⟩
/-- The second one: the leads before place i have been followed. -/
structure Srch (W L : List Wd) (i : Nat) : Prop where
  nodup : L.Nodup
  ok : ∀ o ∈ L, o ≠ [] ∧ End W o ∧ (Tw W o → Amb W)
  seeds : ∀ w ∈ W, ∀ v ∈ W, ∀ o, o ≠ [] → v = w ++ o → o ∈ L
  done : ∀ k, k < i → L.getD k [] ∉ W ∧ ∀ o', o' ≠ [] → Stp W (L.getD k []) o' → o' ∈ L
theorem Seeds.srch {W L : List Wd} (h : Seeds W L W.length) : Srch W L 0 := by
  refine ⟨h.1, fun o ho => ?_, fun w hw v hv o h1 h2 => ?_, fun k hk => by omega⟩
  · obtain ⟨h1, a, h2, v, h3, h4⟩ := (h.2 o).1 ho
    exact ⟨h1, ⟨v, h3, _, h4.symm⟩, fun ht => ⟨_, v, o, getD_mem h2, h3, h1, h4, ht⟩⟩
  · obtain ⟨a, ha, rfl⟩ := List.getElem_of_mem hw
    refine (h.2 o).2 ⟨h1, a, ha, v, hv, ?_⟩
    rw [List.getD_eq_getElem?_getD, List.getElem?_eq_getElem ha]
    exact h2
theorem Srch.len {W L : List Wd} {i : Nat} (h : Srch W L i) (hg : Good W) : L.length ≤ 156 := by
  have h1 := Sm.nodup_le (B := ends W) h.nodup fun o ho => mem_ends.2 (h.ok o ho).2.1
  have h2 := ends_len hg.short
  have h3 := hg.few
  omega
theorem Srch.hit {W L : List Wd} {i : Nat} (h : Srch W L i) (hg : Good W) (hi : i < L.length) (hw : L.getD i [] ∈ W) : ¬ UD W := by
  rw [ud_iff hg.some_]
  intro hn
  exact hn ((h.ok _ (getD_mem hi)).2.2 (.fwd hw (List.append_nil _).symm .nil))
theorem Srch.step {W L : List Wd} {i : Nat} (h : Srch W L i) (hi : i < L.length) (hw : L.getD i [] ∉ W) : Srch W (un (un L (bey (L.getD i []) W)) (wit (L.getD i []) W)) (i + 1) := by
  have hm := getD_mem hi
  obtain ⟨a1, a2, a3⟩ := h.ok _ hm
  have hp : L <+: un (un L (bey (L.getD i []) W)) (wit (L.getD i []) W) := (un_pre _ _).trans (un_pre _ _)
  refine ⟨un_nodup (un_nodup h.nodup), fun o ho => ?_, fun w h1 v h2 o h3 h4 => ?_, fun k hk => ?_⟩
  · rw [mem_un, mem_un, mem_bey, mem_wit] at ho
    rcases ho with (ho | ⟨h1, w, h2, h3⟩) | ⟨h1, w, h2, h3⟩
    · exact h.ok o ho
    · have hs : Stp W (L.getD i []) o := ⟨w, h2, .inl h3⟩
      exact ⟨h1, a2.step hs, fun ht => a3 (Tw.of_step hs ht)⟩
    · have hs : Stp W (L.getD i []) o := ⟨w, h2, .inr h3⟩
      exact ⟨h1, a2.step hs, fun ht => a3 (Tw.of_step hs ht)⟩
  · rw [mem_un, mem_un]
    exact .inl (.inl (h.seeds w h1 v h2 o h3 h4))
  · rw [pre_getD hp (by omega)]
    by_cases e : k = i
    · subst e
      refine ⟨hw, fun o' h1 h2 => ?_⟩
      rw [mem_un, mem_un, mem_bey, mem_wit]
      obtain ⟨w, h3, h4 | h4⟩ := h2
      · exact .inl (.inr ⟨h1, w, h3, h4⟩)
      · exact .inr ⟨h1, w, h3, h4⟩
    · obtain ⟨h1, h2⟩ := h.done k (by omega)
      refine ⟨h1, fun o' h3 h4 => ?_⟩
      rw [mem_un, mem_un]
      exact .inl (.inl (h2 o' h3 h4))
theorem Srch.fin {W L : List Wd} (h : Srch W L L.length) (hg : Good W) : UD W := by
  rw [ud_iff hg.some_]
  rintro ⟨w, v, o, h1, h2, h3, h4, h5⟩
  refine no_tw (S := fun o => o ∈ L) (fun h0 => (h.ok _ h0).1 rfl) (fun o o' ho hs => ?_) (h.seeds w h1 v h2 o h3 h4) h5
  obtain ⟨k, hk, rfl⟩ := List.getElem_of_mem ho
  have e : L.getD k [] = L[k] := by rw [List.getD_eq_getElem?_getD, List.getElem?_eq_getElem hk]; rfl
  obtain ⟨h6, h7⟩ := h.done k hk
  rw [e] at h6 h7
  by_cases h0 : o' = []
  · subst h0
    obtain ⟨u, hu, h8 | h8⟩ := hs
    · rw [List.append_nil] at h8; exact absurd (h8 ▸ hu) h6
    · rw [List.append_nil] at h8; exact absurd (h8 ▸ hu) h6
  · exact h7 o' h0 hs
/-- No word begins another one: nothing comes after a word in the others. -/
theorem pf_bey {W : List Wd} : PF W ↔ ∀ j, j < W.length → bey (W.getD j []) W = [] := by
  constructor
  · intro h j hj
    refine List.eq_nil_iff_forall_not_mem.2 fun o ho => ?_
    obtain ⟨h1, w, h2, h3⟩ := mem_bey.1 ho
    have := h _ (getD_mem hj) w h2 ⟨o, h3.symm⟩
    rw [this] at h3
    exact h1 (List.append_right_eq_self.1 h3.symm)
  · rintro h w hw v hv ⟨o, ho⟩
    obtain ⟨j, hj, rfl⟩ := List.getElem_of_mem hw
    have e : W.getD j [] = W[j] := by rw [List.getD_eq_getElem?_getD, List.getElem?_eq_getElem hj]; rfl
    by_cases h0 : o = []
    · subst h0; rw [List.append_nil] at ho; exact ho
    · have : o ∈ bey (W.getD j []) W := mem_bey.2 ⟨h0, v, hv, by rw [e, ho]⟩
      rw [h j hj] at this
      cases this
end Cm
end Go.Proofs.Ytmgkoliindicgaa
