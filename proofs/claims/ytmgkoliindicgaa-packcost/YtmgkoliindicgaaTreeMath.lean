
/-
Plain mathematics on weights: what lengths cost; HUFFMAN: of the two least weights one is made; SHANNON, FANO. No program is named here.
-/
import Derived.Test.YtmgkoliindicgaaCanMath
namespace Go.Proofs.Ytmgkoliindicgaa
namespace Hm
open Cm (sm)

/-- Weights with their lengths. -/
abbrev WL := List (Nat × Nat)
def cost : WL → Nat
  | [] => 0
  | p :: P => p.1 * p.2 + cost P
def kr (M : Nat) : WL → Nat
  | [] => 0
  | p :: P => 2 ^ (M - p.2) + kr M P
def wts (P : WL) : List Nat := P.map (·.1)
/-- The lengths are those of a code of which no word begins another one. -/
def Fit (M : Nat) (P : WL) : Prop := (∀ p ∈ P, p.2 ≤ M) ∧ kr M P ≤ 2 ^ M
theorem cost_perm {P Q : WL} (h : P.Perm Q) : cost P = cost Q := by
  induction h with
  | nil => rfl
  | cons x _ ih => unfold cost; rw [ih]
  | swap x y l => simp only [cost]; omega
  | trans _ _ h1 h2 => exact h1.trans h2
theorem kr_perm {M : Nat} {P Q : WL} (h : P.Perm Q) : kr M P = kr M Q := by
  induction h with
  | nil => rfl
  | cons x _ ih => unfold kr; rw [ih]
  | swap x y l => simp only [kr]; omega
  | trans _ _ h1 h2 => exact h1.trans h2
theorem Fit.perm {M : Nat} {P Q : WL} (h : Fit M P) (hp : P.Perm Q) : Fit M Q := ⟨fun p hq => h.1 p (hp.mem_iff.2 hq), by rw [← kr_perm hp]; exact h.2⟩
theorem swap_le {x z m b : Nat} (h1 : x ≤ z) (h2 : m ≤ b) : x * b + z * m ≤ x * m + z * b := by
  obtain ⟨d, rfl⟩ := Nat.exists_eq_add_of_le h1
  obtain ⟨e, rfl⟩ := Nat.exists_eq_add_of_le h2
  simp only [Nat.add_mul, Nat.mul_add]
  omega
/-- The least weight is handed the greatest length. -/
theorem bubble {x : Nat} : ∀ (Q : WL) (a : Nat), (∀ q ∈ Q, x ≤ q.1) → ∃ m Q', wts Q' = wts Q ∧ (∀ q ∈ Q', q.2 ≤ m) ∧ x * m + cost Q' ≤ x * a + cost Q ∧ (∀ M, 2 ^ (M - m) + kr M Q' = 2 ^ (M - a) + kr M Q) ∧ (∀ K, a ≤ K → (∀ q ∈ Q, q.2 ≤ K) → m ≤ K ∧ ∀ q ∈ Q', q.2 ≤ K)
  | [], a, _ => ⟨a, [], rfl, fun q h => (by cases h), Nat.le_refl _, fun _ => rfl, fun K h _ => ⟨h, fun q h => (by cases h)⟩⟩
  | (z, b) :: Q, a, h => by
    obtain ⟨m, Q', h1, h2, h3, h4, h5⟩ := bubble Q a (fun q hq => h q (List.mem_cons_of_mem _ hq))
    have hz : x ≤ z := h (z, b) List.mem_cons_self
    have hw : ∀ u v : Nat, wts ((z, u) :: Q') = wts ((z, v) :: Q) := fun u v => by
      show z :: wts Q' = z :: wts Q
      rw [h1]
    by_cases hb : b ≤ m
    · refine ⟨m, (z, b) :: Q', hw b b, fun q hq => ?_, ?_, fun M => ?_, fun K k1 k2 => ?_⟩
      · rcases List.mem_cons.1 hq with rfl | hq
        · exact hb
        · exact h2 q hq
      · simp only [cost]; omega
      · have := h4 M
        simp only [kr]; omega
      · obtain ⟨k3, k4⟩ := h5 K k1 fun q hq => k2 q (List.mem_cons_of_mem _ hq)
        refine ⟨k3, fun q hq => ?_⟩
        rcases List.mem_cons.1 hq with rfl | hq
        · exact k2 (z, b) List.mem_cons_self
        · exact k4 q hq
    · refine ⟨b, (z, m) :: Q', hw m b, fun q hq => ?_, ?_, fun M => ?_, fun K k1 k2 => ?_⟩
      · rcases List.mem_cons.1 hq with rfl | hq
        · show m ≤ b
          omega
        · have := h2 q hq
          omega
      · have := swap_le hz (show m ≤ b by omega)
        simp only [cost]; omega
      · have := h4 M
        simp only [kr]; omega
      · obtain ⟨k3, k4⟩ := h5 K k1 fun q hq => k2 q (List.mem_cons_of_mem _ hq)
        refine ⟨k2 (z, b) List.mem_cons_self, fun q hq => ?_⟩
        rcases List.mem_cons.1 hq with rfl | hq
        · exact k3
        · exact k4 q hq
theorem kr_dvd {M m : Nat} : ∀ {Q : WL}, (∀ q ∈ Q, q.2 ≤ m) → 2 ^ (M - m) ∣ kr M Q
  | [], _ => Nat.dvd_zero _
  | q :: Q, h => by
    have h1 := kr_dvd (M := M) (Q := Q) fun p hp => h p (List.mem_cons_of_mem _ hp)
    have h2 := h q List.mem_cons_self
    exact Nat.dvd_add (Nat.pow_dvd_pow 2 (by omega)) h1
theorem front {x : Nat} {R : List Nat} {P : WL} (h : (wts P).Perm (x :: R)) : ∃ a Q, P.Perm ((x, a) :: Q) ∧ (wts Q).Perm R := by
  have hx : x ∈ wts P := h.mem_iff.2 List.mem_cons_self
  obtain ⟨p, hp, rfl⟩ := List.mem_map.1 hx
  have h1 := List.perm_cons_erase hp
  refine ⟨p.2, P.erase p, h1, ?_⟩
  have h2 : (wts P).Perm (p.1 :: wts (P.erase p)) := h1.map _
  exact (List.perm_cons p.1).1 (h2.symm.trans h)
/-- No lengths cost less than c. -/
def LB (W : List Nat) (c : Nat) : Prop := ∀ M P, (wts P).Perm W → Fit M P → c ≤ cost P
/-- Some lengths cost c. -/
def ACH (W : List Nat) (c : Nat) : Prop := ∃ M P, (wts P).Perm W ∧ Fit M P ∧ cost P = c
/-- What the best lengths cost. -/
def Best (W : List Nat) (c : Nat) : Prop := LB W c ∧ ACH W c
theorem Best.same {W : List Nat} {c d : Nat} (h : Best W c) (k : Best W d) : c = d := by
  obtain ⟨M, P, h1, h2, h3⟩ := h.2
  obtain ⟨N, Q, k1, k2, k3⟩ := k.2
  have a1 := h.1 N Q k1 k2
  have a2 := k.1 M P h1 h2
  omega
theorem Best.perm {W V : List Nat} {c : Nat} (h : Best W c) (hp : W.Perm V) : Best V c := by
  obtain ⟨M, P, h1, h2, h3⟩ := h.2
  exact ⟨fun N Q k1 k2 => h.1 N Q (k1.trans hp.symm) k2, M, P, h1.trans hp, h2, h3⟩
theorem Best.one (x : Nat) : Best [x] 0 :=
  ⟨fun _ _ _ _ => Nat.zero_le _, 0, [(x, 0)], List.Perm.refl _, ⟨fun p hp => (by rw [List.mem_singleton.1 hp]; exact Nat.le_refl 0), Nat.le_refl _⟩, rfl⟩
theorem LB.step {x y : Nat} {R : List Nat} {c : Nat} (hxy : x ≤ y) (hy : ∀ z ∈ R, y ≤ z) (h : LB ((x + y) :: R) c) : LB (x :: y :: R) (x + y + c) := by
  intro M P hP hf
  obtain ⟨a, Q, p1, q1⟩ := front hP
  obtain ⟨b, S, p2, q2⟩ := front q1
  have hp := p1.trans (p2.cons (x, a))
  replace hf := hf.perm hp
  rw [cost_perm hp]
  have hSy : ∀ q ∈ S, y ≤ q.1 := fun q hq => hy _ (q2.mem_iff.1 (List.mem_map.2 ⟨q, hq, rfl⟩))
  -- x is handed the greatest length
  obtain ⟨m, T, t1, t2, t3, t4, t5⟩ := bubble (x := x) ((y, b) :: S) a (fun q hq => by
    rcases List.mem_cons.1 hq with rfl | hq
    · exact hxy
    · exact Nat.le_trans hxy (hSy q hq))
  obtain ⟨tm, tK⟩ := t5 M (hf.1 (x, a) List.mem_cons_self) fun q hq => hf.1 q (List.mem_cons_of_mem _ hq)
  have t6 := t4 M
  match T, t1 with
  | [], t1 => cases t1
  | (y', b') :: T, t1 =>
    injection t1 with e1 e2
    have e1' : y' = y := e1
    subst e1'
    have hTy : ∀ q ∈ T, y' ≤ q.1 := fun q hq => by
      have e3 : wts T = wts S := e2
      have : q.1 ∈ wts S := by
        rw [← e3]
        exact List.mem_map.2 ⟨q, hq, rfl⟩
      exact hy _ (q2.mem_iff.1 this)
    -- y the next
    obtain ⟨m2, U, u1, u2, u3, u4, u5⟩ := bubble (x := y') T b' hTy
    obtain ⟨um, uK⟩ := u5 m (t2 (y', b') List.mem_cons_self) fun q hq => t2 q (List.mem_cons_of_mem _ hq)
    have u6 := u4 M
    have hkr : 2 ^ (M - m) + (2 ^ (M - m2) + kr M U) ≤ 2 ^ M := by
      have := hf.2
      simp only [kr] at this t6
      omega
    -- both the same
    have hD : 2 ^ (M - m2) ∣ 2 ^ (M - m2) + kr M U := Nat.dvd_add (Nat.dvd_refl _) (kr_dvd u2)
    have hD2 : 2 ^ (M - m2) ∣ 2 ^ M := Nat.pow_dvd_pow 2 (by omega)
    have hlt : 2 ^ (M - m2) + kr M U < 2 ^ M := by
      have := Nat.two_pow_pos (M - m)
      omega
    have hboth : 2 ^ (M - m2) + (2 ^ (M - m2) + kr M U) ≤ 2 ^ M := by
      obtain ⟨i, hi⟩ := hD
      obtain ⟨k, hk⟩ := hD2
      rw [hi, hk] at hlt ⊢
      have hik : i < k := Nat.lt_of_mul_lt_mul_left hlt
      have := Nat.mul_le_mul_left (2 ^ (M - m2)) hik
      rw [Nat.mul_succ] at this
      omega
    have hm0 : 1 ≤ m2 := by
      rcases Nat.eq_zero_or_pos m2 with h0 | h0
      · rw [h0, Nat.sub_zero] at hboth
        have := Nat.two_pow_pos M
        omega
      · exact h0
    have hpw : 2 ^ (M - (m2 - 1)) = 2 ^ (M - m2) + 2 ^ (M - m2) := by
      rw [show M - (m2 - 1) = M - m2 + 1 by omega, Nat.pow_succ]
      omega
    have hfin := h M ((x + y', m2 - 1) :: U) (by
      show ((x + y') :: wts U).Perm _
      refine List.Perm.cons _ ?_
      rw [u1]
      have : wts T = wts S := e2
      rw [this]
      exact q2) ⟨fun p hp => by
        rcases List.mem_cons.1 hp with rfl | hp
        · show m2 - 1 ≤ M
          omega
        · exact Nat.le_trans (u2 p hp) (by omega), by
        show 2 ^ (M - (m2 - 1)) + kr M U ≤ 2 ^ M
        omega⟩
    have hx2 : x * m2 ≤ x * m := Nat.mul_le_mul_left x um
    obtain ⟨k, rfl⟩ : ∃ k, m2 = k + 1 := ⟨m2 - 1, by omega⟩
    simp only [cost, Nat.add_sub_cancel, Nat.mul_add, Nat.mul_one, Nat.add_mul] at *
    omega
theorem kr_two {M : Nat} : ∀ {Q : WL}, (∀ q ∈ Q, q.2 ≤ M) → kr (M + 1) Q = 2 * kr M Q
  | [], _ => rfl
  | q :: Q, h => by
    have h1 := kr_two (M := M) (Q := Q) fun p hp => h p (List.mem_cons_of_mem _ hp)
    have h2 := h q List.mem_cons_self
    simp only [kr]
    rw [h1, show M + 1 - q.2 = M - q.2 + 1 by omega, Nat.pow_succ]
    omega
theorem ACH.step {x y : Nat} {R : List Nat} {c : Nat} (h : ACH ((x + y) :: R) c) : ACH (x :: y :: R) (x + y + c) := by
  obtain ⟨M, P, h1, h2, h3⟩ := h
  obtain ⟨l, Q, p1, q1⟩ := front h1
  replace h2 := h2.perm p1
  rw [cost_perm p1] at h3
  have hl : l ≤ M := h2.1 (x + y, l) List.mem_cons_self
  have hQ : ∀ q ∈ Q, q.2 ≤ M := fun q hq => h2.1 q (List.mem_cons_of_mem _ hq)
  refine ⟨M + 1, (x, l + 1) :: (y, l + 1) :: Q, (q1.cons y).cons x, ⟨fun p hp => ?_, ?_⟩, ?_⟩
  · rcases List.mem_cons.1 hp with rfl | hp
    · show l + 1 ≤ M + 1
      omega
    · rcases List.mem_cons.1 hp with rfl | hp
      · show l + 1 ≤ M + 1
        omega
      · have := hQ p hp
        omega
  · have h4 := h2.2
    simp only [kr] at h4 ⊢
    rw [kr_two hQ, Nat.add_sub_add_right, Nat.pow_succ]
    omega
  · simp only [cost, Nat.mul_add, Nat.add_mul, Nat.mul_one] at h3 ⊢
    omega
/-- HUFFMAN. -/
theorem Best.step {x y : Nat} {R : List Nat} {c : Nat} (hxy : x ≤ y) (hy : ∀ z ∈ R, y ≤ z) (h : Best ((x + y) :: R) c) : Best (x :: y :: R) (x + y + c) := ⟨h.1.step hxy hy, h.2.step⟩
/-! ### Rows of weights and of lengths -/
def prs (w l : Nat → Nat) (n : Nat) : WL := (List.range n).map fun k => (w k, l k)
def ctot (w l : Nat → Nat) (n : Nat) : Nat := sm (fun k => w k * l k) n
def ksum (M : Nat) (l : Nat → Nat) (n : Nat) : Nat := sm (fun k => 2 ^ (M - l k)) n
theorem cost_app : ∀ (P Q : WL), cost (P ++ Q) = cost P + cost Q
  | [], Q => (Nat.zero_add _).symm
  | p :: P, Q => by
    show p.1 * p.2 + cost (P ++ Q) = p.1 * p.2 + cost P + cost Q
    rw [cost_app P Q]; omega
theorem kr_app (M : Nat) : ∀ (P Q : WL), kr M (P ++ Q) = kr M P + kr M Q
  | [], Q => (Nat.zero_add _).symm
  | p :: P, Q => by
    show 2 ^ (M - p.2) + kr M (P ++ Q) = 2 ^ (M - p.2) + kr M P + kr M Q
    rw [kr_app M P Q]; omega
theorem prs_succ (w l : Nat → Nat) (n : Nat) : prs w l (n + 1) = prs w l n ++ [(w n, l n)] := by unfold prs; rw [List.range_succ, List.map_append]; rfl
theorem cost_prs (w l : Nat → Nat) : ∀ n, cost (prs w l n) = ctot w l n
  | 0 => rfl
  | n + 1 => by rw [prs_succ, cost_app, cost_prs w l n]; rfl
theorem kr_prs (M : Nat) (w l : Nat → Nat) : ∀ n, kr M (prs w l n) = ksum M l n
  | 0 => rfl
  | n + 1 => by rw [prs_succ, kr_app, kr_prs M w l n]; rfl
theorem wts_prs (w l : Nat → Nat) (n : Nat) : wts (prs w l n) = (List.range n).map w := by unfold wts prs; rw [List.map_map]; rfl
theorem fit_prs {M : Nat} {w l : Nat → Nat} {n : Nat} (h1 : ∀ k, k < n → l k ≤ M) (h2 : ksum M l n ≤ 2 ^ M) : Fit M (prs w l n) := by
  refine ⟨fun p hp => ?_, by rw [kr_prs]; exact h2⟩
  obtain ⟨k, hk, rfl⟩ := List.mem_map.1 hp
  exact h1 k (List.mem_range.1 hk)
/-- l are lengths for the weights w that cost least. -/
structure Opt (w l : Nat → Nat) (n : Nat) : Prop where
  len : ∀ k, k < n → 1 ≤ l k ∧ l k ≤ 12
  fit : Cm.tot l n ≤ 4096
  least : ∀ M l', (∀ k, k < n → 1 ≤ l' k ∧ l' k ≤ M) → ksum M l' n ≤ 2 ^ M → ctot w l n ≤ ctot w l' n
theorem Opt.of_best {w l : Nat → Nat} {n : Nat} (h1 : ∀ k, k < n → 1 ≤ l k ∧ l k ≤ 12) (h2 : Cm.tot l n ≤ 4096) (h3 : Best ((List.range n).map w) (ctot w l n)) : Opt w l n := by
  refine ⟨h1, h2, fun M l' k1 k2 => ?_⟩
  have := h3.1 M (prs w l' n) (by rw [wts_prs]) (fit_prs (fun k hk => (k1 k hk).2) k2)
  rwa [cost_prs] at this
theorem Opt.of_one {w l : Nat → Nat} (h : l 0 = 1) : Opt w l 1 := by
  have hz : ∀ k, k < 1 → k = 0 := fun k hk => by omega
  refine ⟨fun k hk => by rw [hz k hk, h]; omega, ?_, fun M l' k1 _ => ?_⟩
  · show 0 + 2 ^ (12 - l 0) ≤ 4096
    rw [h]; decide
  · show 0 + w 0 * l 0 ≤ 0 + w 0 * l' 0
    rw [h]
    have := Nat.mul_le_mul_left (w 0) (k1 0 (by omega)).1
    omega
theorem Opt.of_none {w l : Nat → Nat} : Opt w l 0 := ⟨fun k hk => by omega, by show 0 ≤ 4096; decide, fun _ _ _ _ => Nat.le_refl _⟩
theorem Opt.best {w l : Nat → Nat} {n c : Nat} (h : Opt w l n) (hb : Best ((List.range n).map w) c) (hn : 2 ≤ n) : ctot w l n = c := by
  have hf : ksum 12 l n ≤ 2 ^ 12 := h.fit
  refine Nat.le_antisymm ?_ ?_
  · obtain ⟨M, P, h1, h2, h3⟩ := hb.2
    -- the lengths of P, brought into the order of w
    have key : ∀ (m : Nat) (P : WL), (wts P).Perm ((List.range m).map w) → ∃ l', P.Perm (prs w l' m) := by
      intro m
      induction m with
      | zero =>
        intro P hP
        have : P = [] := by
          have := hP.length_eq
          unfold wts at this
          rw [List.length_map] at this
          exact List.eq_nil_of_length_eq_zero (by simpa using this)
        subst this
        exact ⟨fun _ => 0, List.Perm.refl _⟩
      | succ m ih =>
        intro P hP
        have hP2 : (wts P).Perm (w m :: (List.range m).map w) := by
          refine hP.trans ?_
          rw [List.range_succ, List.map_append]
          exact List.perm_append_comm
        obtain ⟨a, Q, p1, q1⟩ := front hP2
        obtain ⟨l', hl'⟩ := ih Q q1
        refine ⟨fun k => if k = m then a else l' k, ?_⟩
        have e : prs w (fun k => if k = m then a else l' k) m = prs w l' m := by
          unfold prs
          refine List.map_congr_left fun k hk => ?_
          have := List.mem_range.1 hk
          show (w k, if k = m then a else l' k) = (w k, l' k)
          rw [if_neg (by omega)]
        rw [prs_succ, e]
        refine p1.trans ((hl'.cons _).trans ?_)
        show ((w m, a) :: prs w l' m).Perm (prs w l' m ++ [(w m, if m = m then a else l' m)])
        rw [if_pos rfl]
        exact (List.perm_append_comm (l₁ := [(w m, a)]))
    obtain ⟨l', hl'⟩ := key n P h1
    have hfit := h2.perm hl'
    rw [← h3, cost_perm hl', cost_prs]
    have hle : ∀ k, k < n → l' k ≤ M := fun k hk => hfit.1 (w k, l' k) (List.mem_map.2 ⟨k, List.mem_range.2 hk, rfl⟩)
    have hks : ksum M l' n ≤ 2 ^ M := by have := hfit.2; rwa [kr_prs] at this
    refine h.least M l' (fun k hk => ⟨?_, hle k hk⟩) hks
    -- two weights: no length is 0
    rcases Nat.eq_zero_or_pos (l' k) with h0 | h0
    · exfalso
      obtain ⟨j, hj, hjk⟩ : ∃ j, j < n ∧ j ≠ k := by
        by_cases hk0 : k = 0
        · exact ⟨1, by omega, by omega⟩
        · exact ⟨0, by omega, by omega⟩
      have two : ∀ (f : Nat → Nat) (m : Nat) (i k : Nat), i < m → k < m → i ≠ k → f i + f k ≤ sm f m := by
        intro f m
        induction m with
        | zero => intro i k hi; omega
        | succ m ih =>
          intro i k hi hk hne
          show _ ≤ sm f m + f m
          have one : ∀ (m i : Nat), i < m → f i ≤ sm f m := by
            intro m
            induction m with
            | zero => intro i hi; omega
            | succ m ih =>
              intro i hi
              show _ ≤ sm f m + f m
              by_cases e : i = m
              · rw [e]; omega
              · have := ih i (by omega); omega
          by_cases e : i = m
          · have := one m k (by omega); rw [e]; omega
          · by_cases e2 : k = m
            · have := one m i (by omega); rw [e2]; omega
            · have := ih i k (by omega) (by omega) hne; omega
      have h5 := two (fun k => 2 ^ (M - l' k)) n k j hk hj (fun e => hjk e.symm)
      have h6 : 2 ^ (M - l' k) + 2 ^ (M - l' j) ≤ 2 ^ M := Nat.le_trans h5 hks
      rw [h0, Nat.sub_zero] at h6
      have := Nat.two_pow_pos (M - l' j)
      omega
    · exact h0
  · have := hb.1 12 (prs w l n) (by rw [wts_prs]) (fit_prs (fun k hk => (h.len k hk).2) hf)
    rwa [cost_prs] at this
end Hm
end Go.Proofs.Ytmgkoliindicgaa
