
/-
Two scripts of one text: when they clash; what is both of them; what is left of the one behind the other; whoever comes first, the same comes out. No program is named here.
-/
import Derived.Test.YtgkagigagcamoaaEdMath
namespace Go.Proofs.Ytgkagigagcamoaa.Es

/-- The same edit? -/
def sm (x y : Ev) : Bool := x.a == y.a && x.d == y.d && lst x.s == lst y.s
theorem sm_iff {x y : Ev} : sm x y = true ↔ x = y := by
  unfold sm
  rw [Bool.and_eq_true, Bool.and_eq_true, beq_iff_eq, beq_iff_eq, beq_iff_eq]
  exact ⟨fun h => Ev.eq h.1.1 h.1.2 (lst_inj_ h.2), fun h => by subst h; exact ⟨⟨rfl, rfl⟩, rfl⟩⟩
theorem sm_self (x : Ev) : sm x x = true := sm_iff.2 rfl
theorem sm_no {x y : Ev} (h : x ≠ y) : sm x y = false := by rw [← Bool.not_eq_true]; exact fun e => h (sm_iff.1 e)
/-- Is it one of these? -/
def has (L : List Ev) (x : Ev) : Bool := L.any fun y => sm y x
theorem has_iff {L : List Ev} {x : Ev} : has L x = true ↔ x ∈ L := by
  unfold has
  rw [List.any_eq_true]
  exact ⟨fun ⟨y, h1, h2⟩ => sm_iff.1 h2 ▸ h1, fun h => ⟨x, h, sm_self x⟩⟩
theorem has_no {L : List Ev} {x : Ev} : has L x = false ↔ x ∉ L := by rw [← Bool.not_eq_true, has_iff]
/-- Two edits clash. -/
def Cl (x y : Ev) : Prop := x ≠ y ∧ x.a ≤ y.a + y.d ∧ y.a ≤ x.a + x.d
def cl (x y : Ev) : Bool := !sm x y && decide (x.a ≤ y.a + y.d) && decide (y.a ≤ x.a + x.d)
theorem cl_iff {x y : Ev} : cl x y = true ↔ Cl x y := by
  unfold cl Cl
  rw [Bool.and_eq_true, Bool.and_eq_true, Bool.not_eq_true', decide_eq_true_iff, decide_eq_true_iff, ← Bool.not_eq_true, sm_iff, and_assoc]
theorem Cl.symm {x y : Ev} (h : Cl x y) : Cl y x := ⟨fun e => h.1 e.symm, h.2.2, h.2.1⟩
/-- Some edit of the one clashes with some of the other. -/
def Cls (A B : List Ev) : Prop := ∃ x, x ∈ A ∧ ∃ y, y ∈ B ∧ Cl x y
theorem Cls.symm {A B : List Ev} (h : Cls A B) : Cls B A := by
  obtain ⟨x, hx, y, hy, h⟩ := h
  exact ⟨y, hy, x, hx, h.symm⟩
/-- Edits in the order of their places, each place once. -/
def Inc (L : List Ev) : Prop := L.Pairwise fun x y => x.a < y.a
theorem inc_ext : ∀ {L M : List Ev}, Inc L → Inc M → (∀ x, x ∈ L ↔ x ∈ M) → L = M
  | [], [], _, _, _ => rfl
  | [], y :: M, _, _, h => absurd ((h y).2 (by simp)) (by simp)
  | x :: L, [], _, _, h => absurd ((h x).1 (by simp)) (by simp)
  | x :: L, y :: M, hL, hM, h => by
    rw [Inc, List.pairwise_cons] at hL hM
    have e : x = y := by
      have h1 := (h x).1 (by simp)
      have h2 := (h y).2 (by simp)
      rw [List.mem_cons] at h1 h2
      rcases h1 with h1 | h1
      · exact h1
      · rcases h2 with h2 | h2
        · exact h2.symm
        · have a1 := hL.1 y h2
          have a2 := hM.1 x h1
          omega
    subst e
    congr 1
    refine inc_ext hL.2 hM.2 fun z => ?_
    have hz := h z
    rw [List.mem_cons, List.mem_cons] at hz
    constructor
    · intro m
      rcases hz.1 (.inr m) with e | e
      · have := hL.1 z m; rw [e] at this; omega
      · exact e
    · intro m
      rcases hz.2 (.inr m) with e | e
      · have := hM.1 z m; rw [e] at this; omega
      · exact e
/-- Each behind the other's end. -/
theorem ch_mem {n : Nat} : ∀ {e : Int} {L : List Ev} {x : Ev}, Ch n e L → x ∈ L → 0 ≤ x.a ∧ e < x.a ∧ 0 ≤ x.d ∧ x.a + x.d ≤ (n : Int) ∧ x.s.size ≤ 40 ∧ (0 < x.d ∨ 0 < x.s.size)
  | _, [], _, _, h => by simp at h
  | e, y :: L, x, h, hx => by
    obtain ⟨h1, h2⟩ := h
    rw [List.mem_cons] at hx
    rcases hx with rfl | hx
    · exact h1
    · have := ch_mem h2 hx
      exact ⟨this.1, by omega, this.2.2⟩
theorem ch_apart {n : Nat} : ∀ {e : Int} {L : List Ev}, Ch n e L → L.Pairwise fun x y => x.a + x.d < y.a
  | _, [], _ => List.Pairwise.nil
  | _, _ :: _, h => List.pairwise_cons.2 ⟨fun _ hx => (ch_mem h.2 hx).2.1, ch_apart h.2⟩
theorem ch_inc {n : Nat} {e : Int} {L : List Ev} (h : Ch n e L) : Inc L := by
  have hp := ch_apart h
  refine hp.imp_of_mem fun {x y} hx _ hxy => ?_
  have := ch_mem h hx
  omega
theorem ch_of_apart {n : Nat} : ∀ {e : Int} {L : List Ev}, (∀ x, x ∈ L → 0 ≤ x.a ∧ e < x.a ∧ 0 ≤ x.d ∧ x.a + x.d ≤ (n : Int) ∧ x.s.size ≤ 40 ∧ (0 < x.d ∨ 0 < x.s.size)) → (L.Pairwise fun x y => x.a + x.d < y.a) → Ch n e L
  | _, [], _, _ => trivial
  | e, y :: L, h, hp => by
    rw [List.pairwise_cons] at hp
    refine ⟨h y (by simp), ch_of_apart (fun x hx => ?_) hp.2⟩
    have := h x (by simp [hx])
    exact ⟨this.1, hp.1 x hx, this.2.2⟩
theorem ch_no_self {n : Nat} {e : Int} {L : List Ev} (h : Ch n e L) : ¬ Cls L L := by
  rintro ⟨x, hx, y, hy, hne, h1, h2⟩
  have hp := ch_apart h
  obtain ⟨i, hi, rfl⟩ := List.getElem_of_mem hx
  obtain ⟨j, hj, rfl⟩ := List.getElem_of_mem hy
  rw [List.pairwise_iff_getElem] at hp
  rcases Nat.lt_trichotomy i j with c | c | c
  · have := hp i j hi hj c; omega
  · subst c; exact hne rfl
  · have := hp j i hj hi c; omega
/-- l is both scripts. -/
def IsBo (A B l : List Ev) : Prop := Inc l ∧ ∀ x, x ∈ l ↔ x ∈ A ∨ x ∈ B
theorem IsBo.unique {A B l m : List Ev} (h : IsBo A B l) (k : IsBo A B m) : l = m := inc_ext h.1 k.1 fun x => by rw [h.2, k.2]
theorem IsBo.symm {A B l : List Ev} (h : IsBo A B l) : IsBo B A l := ⟨h.1, fun x => by rw [h.2, or_comm]⟩
theorem IsBo.self {n : Nat} {e : Int} {A : List Ev} (h : Ch n e A) : IsBo A A A := ⟨ch_inc h, fun x => by simp⟩
theorem IsBo.nil {n : Nat} {e : Int} {A : List Ev} (h : Ch n e A) : IsBo A [] A := ⟨ch_inc h, fun x => by simp⟩
theorem IsBo.nil' {n : Nat} {e : Int} {A : List Ev} (h : Ch n e A) : IsBo [] A A := (IsBo.nil h).symm
/-- Both scripts are a row of edits that don't touch. -/
theorem IsBo.ch {n : Nat} {A B l : List Ev} (h : IsBo A B l) (ha : Ch n (-1) A) (hb : Ch n (-1) B) (hc : ¬ Cls A B) : Ch n (-1) l := by
  have mem : ∀ x, x ∈ l → 0 ≤ x.a ∧ -1 < x.a ∧ 0 ≤ x.d ∧ x.a + x.d ≤ (n : Int) ∧ x.s.size ≤ 40 ∧ (0 < x.d ∨ 0 < x.s.size) := fun x hx => by
    rcases (h.2 x).1 hx with m | m
    · exact ch_mem ha m
    · exact ch_mem hb m
  refine ch_of_apart mem (h.1.imp_of_mem fun {x y} hx hy hxy => ?_)
  have hne : x ≠ y := fun e => by rw [e] at hxy; omega
  have m2 := mem y hy
  have key : ∀ L, ¬ Cls L L → x ∈ L → y ∈ L → x.a + x.d < y.a := fun L hL h1 h2 => by
    refine Int.not_le.1 fun c => hL ⟨x, h1, y, h2, hne, by omega, c⟩
  rcases (h.2 x).1 hx with m | m <;> rcases (h.2 y).1 hy with k | k
  · exact key A (ch_no_self ha) m k
  · exact Int.not_le.1 fun c => hc ⟨x, m, y, k, hne, by omega, c⟩
  · exact Int.not_le.1 fun c => hc (Cls.symm ⟨x, m, y, k, hne, by omega, c⟩)
  · exact key B (ch_no_self hb) m k
theorem err_ch {n : Nat} {L : List Ev} (h : eErr n L = 0) : Ch n (-1) L ∧ n ≤ 200 ∧ L.length ≤ 20 ∧ (n : Int) + gro L ≤ 200 := by
  unfold eErr at h
  by_cases h1 : (n : Int) < 0 ∨ 200 < (n : Int)
  · rw [if_pos h1] at h; exact absurd h (by decide)
  · rw [if_neg h1] at h
    by_cases h2 : 20 < L.length
    · rw [if_pos h2] at h; exact absurd h (by decide)
    · rw [if_neg h2] at h
      by_cases h3 : rowErr n (-1) L = 0
      · rw [if_pos h3] at h
        by_cases h4 : 200 < (n : Int) + gro L
        · rw [if_pos h4] at h; exact absurd h (by decide)
        · exact ⟨row_zero.1 h3, by omega, by omega, by omega⟩
      · rw [if_neg h3] at h; exact absurd h h3
theorem err_of {n : Nat} {L : List Ev} (h1 : Ch n (-1) L) (h2 : n ≤ 200) (h3 : L.length ≤ 20) (h4 : (n : Int) + gro L ≤ 200) : eErr n L = 0 := by
  unfold eErr
  rw [if_neg (by omega), if_neg (by omega), if_pos (row_zero.2 h1), if_neg (by omega)]

/-- The k-th place's edit of a segment. -/
def ev_ (k : Nat) (g : Sg) : Ev := ⟨(k + g.p.length : Nat), (g.d.length : Nat), mkS g.i⟩
/-- The text when those edits alone are done that P tells. -/
def sdst (P : Ev → Bool) : Nat → List Sg → List UInt8 → List UInt8
  | _, [], q => q
  | k, g :: G, q => g.p ++ ((if P (ev_ k g) then g.i else g.d) ++ sdst P (k + g.p.length + g.d.length) G q)
/-- What is left then. -/
def rst (P : Ev → Bool) : Nat → Nat → List Sg → List Ev
  | _, _, [] => []
  | k, j, g :: G => if P (ev_ k g) then rst P (k + g.p.length + g.d.length) (j + g.p.length + g.i.length) G else ev_ j g :: rst P (k + g.p.length + g.d.length) (j + g.p.length + g.d.length) G
theorem cut3 (P p d r : List UInt8) (a e : Nat) (ha : a = P.length + p.length) (he : e = a + d.length) : (P ++ (p ++ (d ++ r))).take a = P ++ p ∧ (P ++ (p ++ (d ++ r))).drop e = r := by
  constructor
  · rw [show P ++ (p ++ (d ++ r)) = (P ++ p) ++ (d ++ r) by simp only [List.append_assoc], show a = (P ++ p).length by rw [List.length_append, ha], List.take_left]
  · rw [show P ++ (p ++ (d ++ r)) = (P ++ (p ++ d)) ++ r by simp only [List.append_assoc], show e = (P ++ (p ++ d)).length by rw [List.length_append, List.length_append, he, ha]; omega, List.drop_left]
theorem sdone (P : Ev → Bool) (q : List UInt8) : ∀ (G : List Sg) (X : List UInt8), doneL (X ++ src G q) ((evs X.length G).filter P) = X ++ sdst P X.length G q
  | [], X => rfl
  | g :: G, X => by
    have ih := sdone P q G (X ++ g.p ++ g.d)
    rw [List.length_append, List.length_append] at ih
    simp only [List.append_assoc] at ih
    simp only [evs, src, sdst]
    rw [List.filter_cons]
    show doneL _ (if P (ev_ X.length g) = true then _ else _) = _
    by_cases h : P (ev_ X.length g) = true
    · rw [if_pos h, if_pos h]
      simp only [doneL]
      rw [ih]
      obtain ⟨f1, f2⟩ := cut3 X g.p g.d (sdst P (X.length + g.p.length + g.d.length) G q) _ _ rfl rfl
      rw [lst_mk, Int.toNat_natCast, show (((X.length + g.p.length : Nat) : Int) + (g.d.length : Int)).toNat = X.length + g.p.length + g.d.length by omega, f1, f2]
      simp only [List.append_assoc]
    · rw [if_neg h, if_neg h]
      exact ih
theorem rdone (P : Ev → Bool) (q : List UInt8) : ∀ (G : List Sg) (X : List UInt8) (k : Nat), doneL (X ++ sdst P k G q) (rst P k X.length G) = X ++ dst G q
  | [], X, _ => rfl
  | g :: G, X, k => by
    simp only [sdst, rst, dst]
    by_cases h : P (ev_ k g) = true
    · rw [if_pos h, if_pos h]
      have ih := rdone P q G (X ++ g.p ++ g.i) (k + g.p.length + g.d.length)
      rw [List.length_append, List.length_append] at ih
      simp only [List.append_assoc] at ih
      exact ih
    · rw [if_neg h, if_neg h]
      have ih := rdone P q G (X ++ g.p ++ g.d) (k + g.p.length + g.d.length)
      rw [List.length_append, List.length_append] at ih
      simp only [List.append_assoc] at ih
      simp only [doneL, ev_]
      rw [ih]
      obtain ⟨f1, f2⟩ := cut3 X g.p g.d (dst G q) _ _ rfl rfl
      rw [lst_mk, Int.toNat_natCast, show (((X.length + g.p.length : Nat) : Int) + (g.d.length : Int)).toNat = X.length + g.p.length + g.d.length by omega, f1, f2]
      simp only [List.append_assoc]
theorem rst_len (P : Ev → Bool) : ∀ (G : List Sg) (k j : Nat), (rst P k j G).length ≤ G.length
  | [], _, _ => Nat.le_refl _
  | g :: G, k, j => by
    simp only [rst]
    split
    · exact Nat.le_trans (rst_len P G _ _) (Nat.le_succ _)
    · have := rst_len P G (k + g.p.length + g.d.length) (j + g.p.length + g.d.length)
      simp only [List.length_cons]
      omega
theorem rst_ch (P : Ev → Bool) (q : List UInt8) : ∀ (G : List Sg) (k j N : Nat) (e : Int) (f : Bool), Gd f G → N = j + (sdst P k G q).length → e ≤ (j : Int) → (f = true → e < (j : Int)) → Ch N e (rst P k j G)
  | [], _, _, _, _, _, _, _, _, _ => trivial
  | g :: G, k, j, N, e, f, h, hN, he, hf => by
    obtain ⟨h1, h2, h3, h4⟩ := h
    simp only [sdst, List.length_append] at hN
    simp only [rst]
    by_cases hP : P (ev_ k g) = true
    · rw [if_pos hP] at hN ⊢
      refine rst_ch P q G _ _ N e false h4 (by omega) (by omega) (fun h => by cases h)
    · rw [if_neg hP] at hN ⊢
      have hz : (mkS g.i).size = g.i.length := mk_size _
      refine ⟨⟨by simp only [ev_]; omega, ?_, by simp only [ev_]; omega, by simp only [ev_]; omega, by simp only [ev_, hz]; exact h2, by simp only [ev_, hz]; omega⟩, ?_⟩
      · rcases h1 with h1 | h1
        · have := hf h1; simp only [ev_]; omega
        · simp only [ev_]; omega
      · refine rst_ch P q G _ _ N _ false h4 (by omega) (by simp only [ev_]; omega) (fun h => by cases h)
theorem rst_gro (P : Ev → Bool) (q : List UInt8) : ∀ (G : List Sg) (k j : Nat), gro (rst P k j G) = ((dst G q).length : Int) - ((sdst P k G q).length : Int)
  | [], _, _ => by simp [rst, gro, dst, sdst]
  | g :: G, k, j => by
    simp only [rst, dst, sdst, List.length_append]
    by_cases hP : P (ev_ k g) = true
    · rw [if_pos hP, if_pos hP, rst_gro P q G]; omega
    · rw [if_neg hP, if_neg hP]
      simp only [gro]
      rw [rst_gro P q G]
      simp only [ev_, mk_size]
      omega
/-- How much the edits of a that end ahead of t add. -/
def upTo (A : List Ev) (t : Int) : Int := gro (A.filter fun y => decide (y.a + y.d < t))
/-- What is left of B behind A. -/
def behL (A B : List Ev) : List Ev := (B.filter fun x => !has A x).map fun x => ⟨x.a + upTo A x.a, x.d, x.s⟩
/-- The edits ahead of a place, of a row of edits that don't touch. -/
theorem filter_ahead {X Y : List Ev} {t : Int} (h1 : ∀ x, x ∈ X → x.a + x.d < t) (h2 : ∀ y, y ∈ Y → ¬ y.a + y.d < t) : (X ++ Y).filter (fun y => decide (y.a + y.d < t)) = X := by
  rw [List.filter_append]
  have e1 : X.filter (fun y => decide (y.a + y.d < t)) = X := List.filter_eq_self.2 fun x hx => decide_eq_true (h1 x hx)
  have e2 : Y.filter (fun y => decide (y.a + y.d < t)) = [] := List.filter_eq_nil_iff.2 fun y hy => by simpa using h2 y hy
  rw [e1, e2, List.append_nil]
theorem rst_is (P : Ev → Bool) : ∀ (G : List Sg) (k j : Nat) (X : List Ev) (n : Nat) (e : Int), Ch n e (evs k G) → (∀ x, x ∈ X → x.a + x.d ≤ (k : Int)) → (∀ x, x ∈ X → ∀ y, y ∈ evs k G → x.a + x.d < y.a) → (j : Int) = (k : Int) + gro (X.filter P) →
    rst P k j G = ((evs k G).filter fun x => !P x).map fun x => ⟨x.a + upTo ((X ++ evs k G).filter P) x.a, x.d, x.s⟩
  | [], _, _, _, _, _, _, _, _, _ => rfl
  | g :: G, k, j, X, n, e, hc, hX, hXY, hj => by
    have hc2 := hc.2
    have hin := fun {x : Ev} (hx : x ∈ evs (k + g.p.length + g.d.length) G) => ch_mem hc2 hx
    have ih := fun j' X' a b c => rst_is P G (k + g.p.length + g.d.length) j' X' n ((ev_ k g).a + (ev_ k g).d) hc2 a b c
    have e0 : evs k (g :: G) = ev_ k g :: evs (k + g.p.length + g.d.length) G := rfl
    have hX' : ∀ x, x ∈ X ++ [ev_ k g] → x.a + x.d ≤ ((k + g.p.length + g.d.length : Nat) : Int) := fun x hx => by
      rw [List.mem_append, List.mem_singleton] at hx
      rcases hx with hx | rfl
      · have := hX x hx; omega
      · simp only [ev_]; omega
    have hXY' : ∀ x, x ∈ X ++ [ev_ k g] → ∀ y, y ∈ evs (k + g.p.length + g.d.length) G → x.a + x.d < y.a := fun x hx y hy => by
      rw [List.mem_append, List.mem_singleton] at hx
      rcases hx with hx | rfl
      · exact hXY x hx y (by rw [e0]; simp [hy])
      · exact (hin hy).2.1
    have eX : X ++ evs k (g :: G) = (X ++ [ev_ k g]) ++ evs (k + g.p.length + g.d.length) G := by rw [e0]; simp
    rw [eX]
    rw [e0, List.filter_cons]
    simp only [rst]
    by_cases hP : P (ev_ k g) = true
    · rw [if_pos hP, if_neg (by rw [hP]; simp)]
      refine ih _ (X ++ [ev_ k g]) hX' hXY' ?_
      rw [List.filter_append, gro_app]
      have : [ev_ k g].filter P = [ev_ k g] := by rw [List.filter_cons, if_pos hP]; rfl
      rw [this]
      simp only [gro, ev_, mk_size]
      omega
    · rw [if_neg hP, if_pos (by simpa using hP), List.map_cons]
      have hgr : ((X ++ [ev_ k g]).filter P) = X.filter P := by
        rw [List.filter_append, List.filter_cons, if_neg hP]; simp
      congr 1
      · have hu : upTo (((X ++ [ev_ k g]) ++ evs (k + g.p.length + g.d.length) G).filter P) (ev_ k g).a = gro (X.filter P) := by
          unfold upTo
          rw [List.filter_append, hgr, filter_ahead]
          · intro x hx
            exact hXY x ((List.mem_filter.1 hx).1) _ (by rw [e0]; simp)
          · intro y hy
            have m := hin ((List.mem_filter.1 hy).1)
            have m2 : ((k + g.p.length : Nat) : Int) + ((g.d.length : Nat) : Int) < y.a := m.2.1
            have m3 := m.2.2.1
            show ¬ y.a + y.d < ((k + g.p.length : Nat) : Int)
            omega
        rw [hu]
        refine Ev.eq ?_ rfl rfl
        simp only [ev_]
        omega
      · refine ih _ (X ++ [ev_ k g]) hX' hXY' ?_
        rw [hgr]
        omega
/-- The script A as edits of both. -/
theorem IsBo.left {A B l : List Ev} (h : IsBo A B l) (hA : Inc A) : l.filter (has A) = A :=
  inc_ext (h.1.filter _) hA fun x => by
    rw [List.mem_filter, has_iff, h.2]
    exact ⟨fun q => q.2, fun q => ⟨.inl q, q⟩⟩
theorem IsBo.rest {A B l : List Ev} (h : IsBo A B l) (hB : Inc B) : (l.filter fun x => !has A x) = B.filter fun x => !has A x :=
  inc_ext (h.1.filter _) (hB.filter _) fun x => by
    rw [List.mem_filter, List.mem_filter, h.2]
    have : (!has A x) = true ↔ x ∉ A := by rw [Bool.not_eq_true', has_no]
    rw [this]
    exact ⟨fun q => ⟨q.1.resolve_left q.2, q.2⟩, fun q => ⟨.inr q.1, q.2⟩⟩
/-- One first, and then what is left of the other: the same as both at one time. -/
theorem meets {s : List UInt8} {A B l : List Ev} (h : IsBo A B l) (ha : eErr s.length A = 0) (hb : eErr s.length B = 0) (hl : eErr s.length l = 0) :
    eErr (doneL s A).length (behL A B) = 0 ∧ doneL (doneL s A) (behL A B) = doneL s l := by
  obtain ⟨ca, hs, _, hga⟩ := err_ch ha
  obtain ⟨cb, _, _, _⟩ := err_ch hb
  obtain ⟨G, q, hS⟩ := scr_of hl
  have cl_ : Ch s.length (-1) (evs 0 G) := by rw [hS.evs_]; exact hS.ch
  have hA := h.left (ch_inc ca)
  have hR := h.rest (ch_inc cb)
  have eU : doneL s A = sdst (has A) 0 G q := by
    have := sdone (has A) q G []
    rw [List.nil_append, List.nil_append, List.length_nil, hS.src_, hS.evs_, hA] at this
    exact this
  have eB : behL A B = rst (has A) 0 0 G := by
    have := rst_is (has A) G 0 0 [] s.length (-1) cl_ (fun x hx => by simp at hx) (fun x hx => by simp at hx) (by simp [gro])
    rw [List.nil_append, hS.evs_, hA, hR] at this
    exact this.symm
  have eD : doneL s l = dst G q := hS.done
  have hto := hS.to_
  have hlen := rst_len (has A) G 0 0
  have hg := rst_gro (has A) q G 0 0
  have hfew := hS.few
  rw [eB, eU, eD]
  refine ⟨err_of ?_ ?_ (by omega) (by omega), ?_⟩
  · exact rst_ch (has A) q G 0 0 _ (-1) true hS.good (by omega) (by decide) (fun _ => by decide)
  · obtain ⟨GA, qA, hSA⟩ := scr_of ha
    rw [← eU, hSA.done]
    exact hSA.to_
  · have := rdone (has A) q G [] 0
    rw [List.nil_append, List.nil_append, List.length_nil] at this
    exact this
theorem beh_self (A : List Ev) : behL A A = [] := by
  unfold behL
  rw [List.map_eq_nil_iff, List.filter_eq_nil_iff]
  intro x hx
  rw [has_iff.2 hx]
  decide
theorem beh_nil (A : List Ev) : behL [] A = A := by
  unfold behL
  have : (A.filter fun x => !has [] x) = A := List.filter_eq_self.2 fun x _ => rfl
  rw [this]
  conv => rhs; rw [← List.map_id A]
  refine List.map_congr_left fun x _ => ?_
  simp [upTo, gro]
end Go.Proofs.Ytgkagigagcamoaa.Es
