
/-
Plain mathematics on lists of Lyndon words: words as lists of bytes, their order, the one way to cut a word into Lyndon words none of which is less than the following one. No program is named here.
-/
import Derived.Test.YtejcijlmpiiffaaLeastMath
namespace Go.Proofs.Ytejcijlmpiiffaa
namespace Lm

/-- The byte at place i, as a number. -/
def bn (a : List UInt8) (i : Nat) : Nat := (a.getD i 0).toNat
theorem bn_cons (c : UInt8) (a : List UInt8) (i : Nat) : bn (c :: a) (i + 1) = bn a i := rfl
theorem bn_lt {a : List UInt8} {i : Nat} (h : i < a.length) : bn a i = a[i].toNat := by unfold bn; rw [List.getD_eq_getElem?_getD, List.getElem?_eq_getElem h, Option.getD_some]
theorem bn_app_l {a b : List UInt8} {i : Nat} (h : i < a.length) : bn (a ++ b) i = bn a i := by
  unfold bn; rw [List.getD_eq_getElem?_getD, List.getElem?_append_left h, ← List.getD_eq_getElem?_getD]
theorem bn_app_r {a b : List UInt8} (i : Nat) : bn (a ++ b) (a.length + i) = bn b i := by
  unfold bn; rw [List.getD_eq_getElem?_getD, List.getElem?_append_right (by omega), ← List.getD_eq_getElem?_getD]; congr 2; omega
theorem bn_drop (a : List UInt8) (k i : Nat) : bn (a.drop k) i = bn a (k + i) := by
  unfold bn; rw [List.getD_eq_getElem?_getD, List.getElem?_drop, ← List.getD_eq_getElem?_getD]
theorem bn_take {a : List UInt8} {k i : Nat} (h : i < k) : bn (a.take k) i = bn a i := by
  unfold bn; rw [List.getD_eq_getElem?_getD, List.getElem?_take_of_lt h, ← List.getD_eq_getElem?_getD]
theorem bn_ext {a b : List UInt8} (hl : a.length = b.length) (h : ∀ i, i < a.length → bn a i = bn b i) : a = b := by
  refine List.ext_getElem hl fun i h1 h2 => ?_
  have := h i h1
  rw [bn_lt h1, bn_lt h2] at this
  exact UInt8.toNat_inj.1 this
theorem lt_iff : ∀ a b : List UInt8, a < b ↔ Sl (bn a) a.length (bn b) b.length
  | [], [] => ⟨fun h => absurd h (List.lt_irrefl _), fun ⟨d, _, h, _⟩ => by simp at h⟩
  | [], c :: b => ⟨fun _ => ⟨0, by simp, by simp, fun i hi => by omega, .inl rfl⟩, fun _ => List.nil_lt_cons _ _⟩
  | c :: a, [] => ⟨fun h => absurd h (List.not_lt_nil _), fun ⟨d, _, h, _⟩ => by simp at h⟩
  | c :: a, e :: b => by
    rw [List.cons_lt_cons_iff, lt_iff a b]
    constructor
    · rintro (h | ⟨rfl, d, h1, h2, h3, h4⟩)
      · exact ⟨0, by simp, by simp, fun i hi => by omega, .inr ⟨by simp, UInt8.lt_iff_toNat_lt.1 h⟩⟩
      · refine ⟨d + 1, by simp; omega, by simp; omega, fun i hi => ?_, ?_⟩
        · cases i with
          | zero => rfl
          | succ i => rw [bn_cons, bn_cons]; exact h3 i (by omega)
        · simp only [List.length_cons, bn_cons]
          omega
    · rintro ⟨d, h1, h2, h3, h4⟩
      cases d with
      | zero =>
        simp only [List.length_cons] at h4
        rcases h4 with h4 | ⟨_, h4⟩
        · omega
        · exact .inl (UInt8.lt_iff_toNat_lt.2 h4)
      | succ d =>
        simp only [List.length_cons, bn_cons] at h1 h2 h4
        refine .inr ⟨UInt8.toNat_inj.1 (h3 0 (by omega)), d, by omega, by omega, fun i hi => ?_, by omega⟩
        have := h3 (i + 1) (by omega)
        rwa [bn_cons, bn_cons] at this

def Lyn (w : List UInt8) : Prop := LynF (bn w) w.length
theorem Lyn.ne {w : List UInt8} (h : Lyn w) : w ≠ [] := by rintro rfl; exact absurd h.1 (by simp)
theorem Lyn.end_ {w u v : List UInt8} (h : Lyn w) (e : w = u ++ v) (hu : u ≠ []) (hv : v ≠ []) : w < v := by
  have h1 := List.length_pos_iff.2 hu
  have h2 := List.length_pos_iff.2 hv
  have hl : w.length = u.length + v.length := by rw [e, List.length_append]
  obtain ⟨j, hj, ha, hlt⟩ := h.2 u.length h1 (by omega)
  rw [lt_iff]
  refine ⟨j, by omega, by omega, fun i hi => ?_, .inr ⟨by omega, ?_⟩⟩
  · rw [ha i hi, e, bn_app_r]
  · rw [← bn_app_r (a := u) (b := v) j, ← e]; exact hlt
theorem lyn_of_ends {w : List UInt8} (hw : w ≠ []) (h : ∀ u v, w = u ++ v → u ≠ [] → v ≠ [] → w < v) : Lyn w := by
  refine ⟨List.length_pos_iff.2 hw, fun k h0 hk => ?_⟩
  have := h (w.take k) (w.drop k) (List.take_append_drop k w).symm (by rw [Ne, ← List.length_eq_zero_iff, List.length_take]; omega) (by rw [Ne, ← List.length_eq_zero_iff, List.length_drop]; omega)
  rw [lt_iff] at this
  obtain ⟨d, h1, h2, h3, h4⟩ := this
  rw [List.length_drop] at h2
  refine ⟨d, by omega, fun i hi => ?_, ?_⟩
  · rw [h3 i hi, bn_drop]
  · rw [bn_drop] at h4; omega

theorem irr (a : List UInt8) : ¬ a < a := List.lt_irrefl a
theorem lt_tr {a b c : List UInt8} (h : a < b) (g : b < c) : a < c := List.lt_trans h g
theorem le_lt {a b c : List UInt8} (h : ¬ b < a) (g : b < c) : a < c := by
  have h : a ≤ b := h
  exact List.lt_of_le_of_lt h g
theorem lt_le {a b c : List UInt8} (h : a < b) (g : ¬ c < b) : a < c := by
  by_cases hx : a < c
  · exact hx
  · exact absurd (le_lt hx h) g
theorem le_tr {a b c : List UInt8} (h : ¬ b < a) (g : ¬ c < b) : ¬ c < a := fun hc => g (lt_le hc h)
theorem pre_le {a : List UInt8} (b : List UInt8) : ¬ a ++ b < a := by
  rw [lt_iff]
  rintro ⟨d, h1, h2, h3, h4⟩
  rw [List.length_append] at h1 h4
  rw [bn_app_l h2] at h4
  omega
theorem pre_lt (a : List UInt8) {b : List UInt8} (hb : b ≠ []) : a < a ++ b := by
  rw [lt_iff]
  have := List.length_pos_iff.2 hb
  exact ⟨a.length, Nat.le_refl _, by rw [List.length_append]; omega, fun i hi => (bn_app_l hi).symm, .inl rfl⟩
theorem take_le (a : List UInt8) (k : Nat) : ¬ a < a.take k := by
  have := pre_le (a := a.take k) (a.drop k)
  rwa [List.take_append_drop] at this
theorem app_lt_app (a : List UInt8) {b c : List UInt8} (h : b < c) : a ++ b < a ++ c := by
  induction a with
  | nil => exact h
  | cons x a ih => exact List.cons_lt_cons_iff.2 (.inr ⟨rfl, ih⟩)
/-- A word that is less than one that it is no front of stays less whatever follows. -/
theorem lt_app {a b : List UInt8} (h : a < b) (hn : ¬ ∃ t, b = a ++ t) (u v : List UInt8) : a ++ u < b ++ v := by
  rw [lt_iff] at h ⊢
  obtain ⟨d, h1, h2, h3, h4⟩ := h
  rcases h4 with rfl | ⟨h4, h5⟩
  · exfalso
    refine hn ⟨b.drop a.length, ?_⟩
    have : a = b.take a.length := by
      refine bn_ext (by rw [List.length_take]; omega) fun i hi => ?_
      rw [bn_take hi]; exact h3 i hi
    conv => rhs; rw [this]
    rw [List.length_take, Nat.min_eq_left (Nat.le_of_lt h2), List.take_append_drop]
  · refine ⟨d, by rw [List.length_append]; omega, by rw [List.length_append]; omega, fun i hi => ?_, .inr ⟨by rw [List.length_append]; omega, ?_⟩⟩
    · rw [bn_app_l (by omega), bn_app_l (by omega)]; exact h3 i hi
    · rw [bn_app_l h4, bn_app_l h2]; exact h5

theorem lyn_join {a b : List UInt8} (ha : Lyn a) (hb : Lyn b) : Lyn (a ++ b) ↔ a < b := by
  constructor
  · intro h
    exact lt_tr (pre_lt a hb.ne) (h.end_ rfl ha.ne hb.ne)
  · intro h
    have h1 : a ++ b < b := by
      by_cases hx : ∃ t, b = a ++ t
      · obtain ⟨t, ht⟩ := hx
        have htn : t ≠ [] := by rintro rfl; rw [List.append_nil] at ht; rw [ht] at h; exact irr _ h
        have := app_lt_app a (hb.end_ ht ha.ne htn)
        rwa [← ht] at this
      · have := lt_app h hx b []
        rwa [List.append_nil] at this
    refine lyn_of_ends (by simp [ha.ne]) fun u v e hu hv => ?_
    rcases List.append_eq_append_iff.1 e with ⟨t, rfl, rfl⟩ | ⟨t, rfl, rfl⟩
    · -- u = a ++ t, b = t ++ v
      by_cases ht : t = []
      · subst ht; exact h1
      · exact lt_tr h1 (hb.end_ rfl ht hv)
    · -- a = u ++ t, v = t ++ b
      by_cases ht : t = []
      · subst ht; simpa using h1
      · have hat := ha.end_ rfl hu ht
        refine lt_app hat ?_ b b
        rintro ⟨s, hs⟩
        have := congrArg List.length hs
        simp only [List.length_append] at this
        have := List.length_pos_iff.2 hu
        omega

/-- Lyndon words, none less than a following one, that together are s. -/
structure Fact (s : List UInt8) (ws : List (List UInt8)) : Prop where
  lyn : ∀ w, w ∈ ws → Lyn w
  falls : ws.Pairwise fun a b => ¬ a < b
  all : ws.flatten = s
theorem end_small (w : List UInt8) : ∀ ws : List (List UInt8), (∀ v, v ∈ ws → ¬ w < v) → ∀ z t, z ≠ [] → ws.flatten = z ++ t → ∃ x y, z = x ++ y ∧ y ≠ [] ∧ ¬ w < y
  | [], _, z, t, hz, e => by simp at e; exact absurd e.1 hz
  | v :: vs, h, z, t, hz, e => by
    rw [List.flatten_cons] at e
    rcases List.append_eq_append_iff.1 e with ⟨a, rfl, ha⟩ | ⟨a, rfl, ha⟩
    · by_cases hn : a = []
      · subst hn
        refine ⟨[], v, by simp, by simpa using hz, h v (List.mem_cons_self)⟩
      · obtain ⟨x, y, rfl, hy, hl⟩ := end_small w vs (fun u hu => h u (List.mem_cons_of_mem _ hu)) a t hn ha
        exact ⟨v ++ x, y, by simp, hy, hl⟩
    · exact ⟨[], z, rfl, hz, le_tr (pre_le a) (h _ List.mem_cons_self)⟩
theorem Fact.longest {w s x t : List UInt8} {ws : List (List UInt8)} (h : Fact s (w :: ws)) (hx : Lyn x) (e : s = x ++ t) : x.length ≤ w.length := by
  by_cases hle : x.length ≤ w.length
  · exact hle
  · exfalso
    have hall := h.all
    rw [List.flatten_cons, e] at hall
    have hf := List.pairwise_cons.1 h.falls
    rcases List.append_eq_append_iff.1 hall with ⟨a, rfl, ha⟩ | ⟨a, rfl, ha⟩
    · have hn : a ≠ [] := by rintro rfl; simp at hle
      obtain ⟨u, y, rfl, hy, hl⟩ := end_small w ws hf.1 a t hn ha
      have h1 := hx.end_ (u := w ++ u) (v := y) (by simp) (by simp [(h.lyn w List.mem_cons_self).ne]) hy
      exact hl (lt_tr (pre_lt w (by simp [hy])) h1)
    · simp only [List.length_append] at hle; omega
theorem Fact.tail {w s : List UInt8} {ws : List (List UInt8)} (h : Fact s (w :: ws)) : Fact ws.flatten ws :=
  ⟨fun v hv => h.lyn v (List.mem_cons_of_mem _ hv), (List.pairwise_cons.1 h.falls).2, rfl⟩
theorem Fact.unique : ∀ {ws vs : List (List UInt8)} {s : List UInt8}, Fact s ws → Fact s vs → ws = vs
  | [], [], _, _, _ => rfl
  | [], v :: vs, s, h, k => by
    have h1 := h.all; have h2 := k.all
    rw [← h1] at h2
    simp at h2
    exact absurd h2.1 (k.lyn v List.mem_cons_self).ne
  | w :: ws, [], s, h, k => by
    have h1 := h.all; have h2 := k.all
    rw [← h2] at h1
    simp at h1
    exact absurd h1.1 (h.lyn w List.mem_cons_self).ne
  | w :: ws, v :: vs, s, h, k => by
    have h1 := h.all; have h2 := k.all
    rw [List.flatten_cons] at h1 h2
    have l1 := h.longest (k.lyn v List.mem_cons_self) h2.symm
    have l2 := k.longest (h.lyn w List.mem_cons_self) h1.symm
    have he := List.append_inj (h1.trans h2.symm) (by omega)
    obtain ⟨rfl, hf⟩ := he
    have hk := k.tail
    rw [← hf] at hk
    rw [Fact.unique h.tail hk]
theorem Fact.last_le : ∀ {ws : List (List UInt8)} {s : List UInt8} {l u v : List UInt8}, Fact s ws → ws.getLast? = some l → s = u ++ v → v ≠ [] → ¬ v < l
  | [], s, l, u, v, _, hl, _, _ => by simp at hl
  | w :: ws, s, l, u, v, h, hl, e, hv => by
    have hall := h.all
    rw [List.flatten_cons, e] at hall
    have hf := List.pairwise_cons.1 h.falls
    have hlm : l = w ∨ l ∈ ws := List.mem_cons.1 (List.mem_of_getLast? hl)
    have hle : ¬ w < l := by
      rcases hlm with rfl | hm
      · exact irr _
      · exact hf.1 l hm
    rcases List.append_eq_append_iff.1 hall with ⟨a, rfl, ha⟩ | ⟨a, rfl, ha⟩
    · -- u = w ++ a, flatten ws = a ++ v
      cases ws with
      | nil => simp at ha; exact absurd ha.2 hv
      | cons w2 ws =>
        refine Fact.last_le h.tail ?_ ha hv
        rw [List.getLast?_cons_cons] at hl
        exact hl
    · -- w = u ++ a, v = a ++ flatten ws
      by_cases hn : a = []
      · subst hn
        simp only [List.nil_append] at ha
        cases ws with
        | nil => simp at ha; exact absurd ha hv
        | cons w2 ws =>
          rw [List.getLast?_cons_cons] at hl
          exact Fact.last_le h.tail hl (u := []) (by simpa using ha.symm) hv
      · rw [ha]
        refine le_tr hle (le_tr ?_ (pre_le _))
        by_cases hu : u = []
        · subst hu; exact irr _
        · exact fun hc => irr _ (lt_tr hc ((h.lyn _ List.mem_cons_self).end_ rfl hu hn))
theorem Fact.many {s : List UInt8} {ws : List (List UInt8)} (h : Fact s ws) : ws.length ≤ s.length := by
  have key : ∀ l : List (List UInt8), (∀ w, w ∈ l → Lyn w) → l.length ≤ l.flatten.length := by
    intro l
    induction l with
    | nil => simp
    | cons a l ih =>
      intro hl
      have h1 := ih fun w hw => hl w (List.mem_cons_of_mem _ hw)
      have h2 := List.length_pos_iff.2 (hl a List.mem_cons_self).ne
      rw [List.flatten_cons, List.length_append, List.length_cons]
      omega
  rw [← h.all]
  exact key ws h.lyn
theorem fact_nil : Fact [] [] := ⟨fun w hw => by simp at hw, List.Pairwise.nil, rfl⟩
theorem Fact.more {s w : List UInt8} {ws : List (List UInt8)} (h : Fact s ws) (hw : Lyn w) (hf : ∀ a, a ∈ ws → ¬ a < w) : Fact (s ++ w) (ws ++ [w]) := by
  refine ⟨fun v hv => ?_, ?_, ?_⟩
  · rcases List.mem_append.1 hv with hv | hv
    · exact h.lyn v hv
    · rw [List.mem_singleton.1 hv]; exact hw
  · rw [List.pairwise_append]
    refine ⟨h.falls, List.pairwise_singleton _ _, fun a ha b hb => ?_⟩
    rw [List.mem_singleton.1 hb]; exact hf a ha
  · rw [List.flatten_append, h.all]; simp

end Lm
end Go.Proofs.Ytejcijlmpiiffaa
