
/-
Plain mathematics on weights: HUFFMAN's forest: nodes with their weights and leaves, and how deep each leaf lies. No program is named here.
-/
import Derived.Test.YtmgkoliindicgaaTreeMore
namespace Go.Proofs.Ytmgkoliindicgaa
namespace Hm

/-- The sum of f over a list. -/
def ls (f : Nat → Nat) : List Nat → Nat
  | [] => 0
  | i :: L => f i + ls f L
theorem ls_app (f : Nat → Nat) : ∀ (L M : List Nat), ls f (L ++ M) = ls f L + ls f M
  | [], M => (Nat.zero_add _).symm
  | i :: L, M => by
    show f i + ls f (L ++ M) = f i + ls f L + ls f M
    rw [ls_app f L M]; omega
theorem ls_perm {f : Nat → Nat} {L M : List Nat} (h : L.Perm M) : ls f L = ls f M := by
  induction h with
  | nil => rfl
  | cons x _ ih => unfold ls; rw [ih]
  | swap x y l => simp only [ls]; omega
  | trans _ _ h1 h2 => exact h1.trans h2
theorem ls_congr {f g : Nat → Nat} : ∀ {L : List Nat}, (∀ i ∈ L, f i = g i) → ls f L = ls g L
  | [], _ => rfl
  | i :: L, h => by
    unfold ls
    rw [h i List.mem_cons_self, ls_congr (L := L) fun k hk => h k (List.mem_cons_of_mem _ hk)]
theorem ls_range (f : Nat → Nat) : ∀ n, ls f (List.range n) = Cm.sm f n
  | 0 => rfl
  | n + 1 => by
    rw [List.range_succ, ls_app, ls_range f n]
    show Cm.sm f n + (f n + 0) = Cm.sm f n + f n
    omega
theorem ls_add (f g : Nat → Nat) : ∀ L, ls (fun i => f i + g i) L = ls f L + ls g L
  | [] => rfl
  | i :: L => by
    unfold ls
    rw [ls_add f g L]; omega
theorem ls_mul (c : Nat) (f : Nat → Nat) : ∀ L, ls (fun i => c * f i) L = c * ls f L
  | [] => rfl
  | i :: L => by
    unfold ls
    rw [ls_mul c f L, Nat.mul_add]
/-- A node: its weight and its leaves. -/
abbrev Nd := Nat × List Nat
/-- All leaves. -/
def lvs (F : List Nd) : List Nat := F.flatMap (·.2)
theorem lvs_perm {F G : List Nd} (h : F.Perm G) : (lvs F).Perm (lvs G) := List.Perm.flatMap_right _ h
/-- One deeper. -/
def deep (S : List Nat) (l : Nat → Nat) (i : Nat) : Nat := if i ∈ S then l i + 1 else l i
theorem deep_in {S : List Nat} {l : Nat → Nat} {i : Nat} (h : i ∈ S) : deep S l i = l i + 1 := by unfold deep; rw [if_pos h]
theorem deep_out {S : List Nat} {l : Nat → Nat} {i : Nat} (h : i ∉ S) : deep S l i = l i := by unfold deep; rw [if_neg h]
/-- The forest F over the leaves below n, whose leaf i lies l i deep. -/
structure Huf (w : Nat → Nat) (n : Nat) (F : List Nd) (l : Nat → Nat) : Prop where
  parts : (lvs F).Perm (List.range n)
  some_ : ∀ t ∈ F, 1 ≤ t.2.length
  weight : ∀ t ∈ F, t.1 = ls w t.2
  kraft : ∀ t ∈ F, ∀ M, (∀ i ∈ t.2, l i ≤ M) → ls (fun i => 2 ^ (M - l i)) t.2 = 2 ^ M
  low : ∀ t ∈ F, ∀ i ∈ t.2, l i + 1 ≤ t.2.length
  pos : ∀ t ∈ F, 2 ≤ t.2.length → ∀ i ∈ t.2, 1 ≤ l i
  best : ∀ c, Best (F.map (·.1)) c → Best ((List.range n).map w) (ctot w l n + c)
theorem Huf.perm {w l : Nat → Nat} {n : Nat} {F G : List Nd} (h : Huf w n F l) (hp : F.Perm G) : Huf w n G l :=
  ⟨(lvs_perm hp).symm.trans h.parts, fun t ht => h.some_ t (hp.mem_iff.2 ht), fun t ht => h.weight t (hp.mem_iff.2 ht), fun t ht => h.kraft t (hp.mem_iff.2 ht), fun t ht => h.low t (hp.mem_iff.2 ht), fun t ht => h.pos t (hp.mem_iff.2 ht), fun c hc => h.best c (hc.perm (hp.map _).symm)⟩
theorem Huf.start (w : Nat → Nat) (n : Nat) : Huf w n ((List.range n).map fun i => (w i, [i])) (fun _ => 0) := by
  have hm : ∀ t ∈ (List.range n).map fun i => (w i, [i]), ∃ i, t = (w i, [i]) := fun t ht => by
    obtain ⟨i, _, rfl⟩ := List.mem_map.1 ht
    exact ⟨i, rfl⟩
  refine ⟨?_, fun t ht => ?_, fun t ht => ?_, fun t ht M _ => ?_, fun t ht i hi => ?_, fun t ht h2 => ?_, fun c hc => ?_⟩
  · unfold lvs
    rw [List.flatMap_map]
    simp
  · obtain ⟨i, rfl⟩ := hm t ht
    exact Nat.le_refl _
  · obtain ⟨i, rfl⟩ := hm t ht
    rfl
  · obtain ⟨i, rfl⟩ := hm t ht
    show 2 ^ (M - 0) + 0 = 2 ^ M
    rw [Nat.sub_zero, Nat.add_zero]
  · obtain ⟨j, rfl⟩ := hm t ht
    exact Nat.le_refl _
  · obtain ⟨j, rfl⟩ := hm t ht
    have h3 : 2 ≤ 1 := h2
    omega
  · rw [List.map_map] at hc
    have e : ctot w (fun _ => 0) n = 0 := by
      unfold ctot
      clear hc
      induction n with
      | zero => rfl
      | succ n ih =>
        show Cm.sm (fun k => w k * 0) n + w n * 0 = 0
        rw [ih fun t ht => hm t (by rw [List.range_succ, List.map_append]; exact List.mem_append_left _ ht)]
        rfl
    rw [e, Nat.zero_add]
    exact hc
/-- The two least nodes are made one. -/
theorem Huf.step {w l : Nat → Nat} {n : Nat} {x y : Nd} {R : List Nd} (h : Huf w n (x :: y :: R) l) (hxy : x.1 ≤ y.1) (hy : ∀ t ∈ R, y.1 ≤ t.1) :
    Huf w n ((x.1 + y.1, x.2 ++ y.2) :: R) (deep (x.2 ++ y.2) l) := by
  have hx0 : x ∈ x :: y :: R := List.mem_cons_self
  have hy0 : y ∈ x :: y :: R := List.mem_cons_of_mem _ List.mem_cons_self
  have hR0 : ∀ t ∈ R, t ∈ x :: y :: R := fun t ht => List.mem_cons_of_mem _ (List.mem_cons_of_mem _ ht)
  have hnd : (lvs (x :: y :: R)).Nodup := h.parts.nodup_iff.2 List.nodup_range
  have hlv : lvs (x :: y :: R) = (x.2 ++ y.2) ++ lvs R := by
    show x.2 ++ (y.2 ++ lvs R) = _
    rw [List.append_assoc]
  rw [hlv] at hnd
  have hno : ∀ t ∈ R, ∀ i ∈ t.2, i ∉ x.2 ++ y.2 := by
    intro t ht i hi hin
    rw [List.nodup_append] at hnd
    exact hnd.2.2 i hin i (List.mem_flatMap.2 ⟨t, ht, hi⟩) rfl
  have hdx : ∀ i ∈ x.2, deep (x.2 ++ y.2) l i = l i + 1 := fun i hi => deep_in (List.mem_append_left _ hi)
  have hdy : ∀ i ∈ y.2, deep (x.2 ++ y.2) l i = l i + 1 := fun i hi => deep_in (List.mem_append_right _ hi)
  have hdR : ∀ t ∈ R, ∀ i ∈ t.2, deep (x.2 ++ y.2) l i = l i := fun t ht i hi => deep_out (hno t ht i hi)
  refine ⟨?_, fun t ht => ?_, fun t ht => ?_, fun t ht M hM => ?_, fun t ht i hi => ?_, fun t ht h2 i hi => ?_, fun c hc => ?_⟩
  · have := h.parts
    rw [hlv] at this
    exact this
  · rcases List.mem_cons.1 ht with rfl | ht
    · show 1 ≤ (x.2 ++ y.2).length
      have := h.some_ x hx0
      rw [List.length_append]
      omega
    · exact h.some_ t (hR0 t ht)
  · rcases List.mem_cons.1 ht with rfl | ht
    · show x.1 + y.1 = ls w (x.2 ++ y.2)
      rw [ls_app, h.weight x hx0, h.weight y hy0]
    · exact h.weight t (hR0 t ht)
  · rcases List.mem_cons.1 ht with rfl | ht
    · show ls (fun i => 2 ^ (M - deep (x.2 ++ y.2) l i)) (x.2 ++ y.2) = 2 ^ M
      have hM' : ∀ i ∈ x.2 ++ y.2, deep (x.2 ++ y.2) l i ≤ M := hM
      have hM1 : 1 ≤ M := by
        match hx2 : x.2, h.some_ x hx0 with
        | i :: L, _ =>
          have := hM' i (List.mem_append_left _ (by rw [hx2]; exact List.mem_cons_self))
          rw [hdx i (by rw [hx2]; exact List.mem_cons_self)] at this
          omega
      obtain ⟨K, rfl⟩ : ∃ K, M = K + 1 := ⟨M - 1, by omega⟩
      rw [ls_app]
      have e1 : ls (fun i => 2 ^ (K + 1 - deep (x.2 ++ y.2) l i)) x.2 = 2 ^ K := by
        rw [← h.kraft x hx0 K (fun i hi => by have := hM' i (List.mem_append_left _ hi); rw [hdx i hi] at this; omega)]
        exact ls_congr fun i hi => by
          show 2 ^ (K + 1 - deep (x.2 ++ y.2) l i) = 2 ^ (K - l i)
          rw [hdx i hi, Nat.add_sub_add_right]
      have e2 : ls (fun i => 2 ^ (K + 1 - deep (x.2 ++ y.2) l i)) y.2 = 2 ^ K := by
        rw [← h.kraft y hy0 K (fun i hi => by have := hM' i (List.mem_append_right _ hi); rw [hdy i hi] at this; omega)]
        exact ls_congr fun i hi => by
          show 2 ^ (K + 1 - deep (x.2 ++ y.2) l i) = 2 ^ (K - l i)
          rw [hdy i hi, Nat.add_sub_add_right]
      rw [e1, e2, Nat.pow_succ]
      omega
    · rw [← h.kraft t (hR0 t ht) M (fun i hi => by have := hM i hi; rw [hdR t ht i hi] at this; exact this)]
      exact ls_congr fun i hi => by
        show 2 ^ (M - deep (x.2 ++ y.2) l i) = 2 ^ (M - l i)
        rw [hdR t ht i hi]
  · rcases List.mem_cons.1 ht with rfl | ht
    · show deep (x.2 ++ y.2) l i + 1 ≤ (x.2 ++ y.2).length
      rw [List.length_append]
      have s1 := h.some_ x hx0
      have s2 := h.some_ y hy0
      rcases List.mem_append.1 hi with hi | hi
      · rw [hdx i hi]
        have := h.low x hx0 i hi
        omega
      · rw [hdy i hi]
        have := h.low y hy0 i hi
        omega
    · rw [hdR t ht i hi]
      exact h.low t (hR0 t ht) i hi
  · rcases List.mem_cons.1 ht with rfl | ht
    · have hi' : i ∈ x.2 ++ y.2 := hi
      rw [deep_in hi']
      omega
    · rw [hdR t ht i hi]
      exact h.pos t (hR0 t ht) h2 i hi
  · have hb := h.best (x.1 + y.1 + c) (Best.step (x := x.1) (y := y.1) (R := R.map fun t : Nd => t.1) hxy (fun z hz => by
      obtain ⟨t, ht, rfl⟩ := List.mem_map.1 hz
      exact hy t ht) hc)
    have e : ctot w (deep (x.2 ++ y.2) l) n = ctot w l n + (x.1 + y.1) := by
      unfold ctot
      rw [← ls_range, ← ls_range]
      rw [ls_perm (f := fun k => w k * deep (x.2 ++ y.2) l k) h.parts.symm, ls_perm (f := fun k => w k * l k) h.parts.symm, hlv]
      rw [ls_app _ (x.2 ++ y.2) (lvs R), ls_app (fun k => w k * l k) (x.2 ++ y.2) (lvs R)]
      have e1 : ls (fun k => w k * deep (x.2 ++ y.2) l k) (x.2 ++ y.2) = ls (fun k => w k * l k) (x.2 ++ y.2) + ls w (x.2 ++ y.2) := by
        rw [← ls_add]
        exact ls_congr fun i hi => by
          show w i * deep (x.2 ++ y.2) l i = w i * l i + w i
          rw [deep_in hi, Nat.mul_add, Nat.mul_one]
      have e2 : ls (fun k => w k * deep (x.2 ++ y.2) l k) (lvs R) = ls (fun k => w k * l k) (lvs R) := ls_congr fun i hi => by
        obtain ⟨t, ht, hit⟩ := List.mem_flatMap.1 hi
        show w i * deep (x.2 ++ y.2) l i = w i * l i
        rw [hdR t ht i hit]
      rw [e1, e2, ls_app w, ← h.weight x hx0, ← h.weight y hy0]
      omega
    rw [e, show ctot w l n + (x.1 + y.1) + c = ctot w l n + (x.1 + y.1 + c) by omega]
    exact hb
/-- One tree is left. -/
theorem Huf.fin {w l : Nat → Nat} {n : Nat} {t : Nd} (h : Huf w n [t] l) (h2 : 2 ≤ n) (hn : n ≤ 12) : Opt w l n := by
  have hp : t.2.Perm (List.range n) := by
    have := h.parts
    unfold lvs at this
    rw [List.flatMap_cons, List.flatMap_nil, List.append_nil] at this
    exact this
  have hl : t.2.length = n := by have := hp.length_eq; rwa [List.length_range] at this
  have hlen : ∀ k, k < n → 1 ≤ l k ∧ l k ≤ 12 := fun k hk => by
    have hm := hp.mem_iff.2 (List.mem_range.2 hk)
    have a := h.pos t List.mem_cons_self (by omega) k hm
    have b := h.low t List.mem_cons_self k hm
    omega
  refine Opt.of_best hlen ?_ ?_
  · have hk := h.kraft t List.mem_cons_self 12 (fun i hi => (hlen i (List.mem_range.1 (hp.mem_iff.1 hi))).2)
    rw [ls_perm hp, ls_range] at hk
    show Cm.sm (fun j => 2 ^ (12 - l j)) n ≤ 4096
    rw [hk]
    decide
  · have := h.best 0 (Best.one _)
    rwa [Nat.add_zero] at this
end Hm
end Go.Proofs.Ytmgkoliindicgaa
