/-
The contract of the function in quillref.LeastCost: the least of the fronts of two queues.
-/
import Derived.Test.YtppochjhodafdaaQueue
import Derived.Deep.RegionHeld3
import Derived.RegionTactic
import Derived.BigRegion
namespace Go.Proofs.Ytppochjhodafdaa
open Go.RowKit

/-- The variables a and b, and the queues that they hold. -/
structure LCM (w : World) (base Ba Bb : Nat) (va vb : Value) (La Lb : List Int) : Prop where
  ca : w.rowIs Ba 22 1 (fun _ => va)
  cb : w.rowIs Bb 22 1 (fun _ => vb)
  qa : QI w base va La
  qb : QI w base vb Lb
  nab : Ba ≠ Bb
  a1 : va.ownBlock ≠ some Ba ∧ va.ownBlock ≠ some Bb
  b1 : vb.ownBlock ≠ some Ba ∧ vb.ownBlock ≠ some Bb
  ab : ∀ k, va.ownBlock = some k → vb.ownBlock ≠ some k
  ha : base ≤ Ba
  hb : base ≤ Bb
theorem LCM.drewN {w : World} {base Ba Bb : Nat} {va vb : Value} {La Lb : List Int} (h : LCM w base Ba Bb va vb La Lb) (d : Nat) : LCM (w.drewN d) base Ba Bb va vb La Lb :=
  ⟨h.ca, h.cb, h.qa, h.qb, h.nab, h.a1, h.b1, h.ab, h.ha, h.hb⟩
theorem rowIs_but {w w' : World} {b n : Nat} {t : TypeId} {f : Nat → Value} (h : w.rowIs b t n f) (hb : w'.heap[b]? = w.heap[b]?) : w'.rowIs b t n f := h.of_block hb
/-- Another queue into the variable a. -/
theorem LCM.setA {w : World} {base Ba Bb : Nat} {va vb va' : Value} {La Lb La' : List Int} (h : LCM w base Ba Bb va vb La Lb) (hq : QI w base va' La') (ho : va'.ownBlock = va.ownBlock) : LCM (w.setCell ⟨Ba, 0, none⟩ va') base Ba Bb va' vb La' Lb := by
  have hbl : ∀ k, k ≠ Ba → (w.setCell ⟨Ba, 0, none⟩ va').heap[k]? = w.heap[k]? := fun k hk => Below.heap_setCell _ _ _ k hk
  have hsz : w.heap.size ≤ (w.setCell ⟨Ba, 0, none⟩ va').heap.size := by simp
  refine ⟨(h.ca.set 0 va').congr fun j hj => ?_, h.cb.of_block (hbl Bb (fun e => h.nab e.symm)), hq.keep hsz fun k hk => hbl k fun e => ?_, h.qb.keep hsz fun k hk => hbl k fun e => ?_, h.nab, by rw [ho]; exact h.a1, h.b1, by rw [ho]; exact h.ab, h.ha, h.hb⟩
  · obtain rfl : j = 0 := by omega
    rw [if_pos rfl]
  · rw [e] at hk; exact h.a1.1 (ho ▸ hk)
  · rw [e] at hk; exact h.b1.1 hk
theorem LCM.setB {w : World} {base Ba Bb : Nat} {va vb vb' : Value} {La Lb Lb' : List Int} (h : LCM w base Ba Bb va vb La Lb) (hq : QI w base vb' Lb') (ho : vb'.ownBlock = vb.ownBlock) : LCM (w.setCell ⟨Bb, 0, none⟩ vb') base Ba Bb va vb' La Lb' := by
  have hbl : ∀ k, k ≠ Bb → (w.setCell ⟨Bb, 0, none⟩ vb').heap[k]? = w.heap[k]? := fun k hk => Below.heap_setCell _ _ _ k hk
  have hsz : w.heap.size ≤ (w.setCell ⟨Bb, 0, none⟩ vb').heap.size := by simp
  refine ⟨h.ca.of_block (hbl Ba h.nab), (h.cb.set 0 vb').congr fun j hj => ?_, h.qa.keep hsz fun k hk => hbl k fun e => ?_, hq.keep hsz fun k hk => hbl k fun e => ?_, h.nab, h.a1, by rw [ho]; exact h.b1, by rw [ho]; exact h.ab, h.ha, h.hb⟩
  · obtain rfl : j = 0 := by omega
    rw [if_pos rfl]
  · rw [e] at hk; exact h.a1.2 hk
  · rw [e] at hk; exact h.b1.2 (ho ▸ hk)
/-- What 'take' leaves. -/
def TakePost (base Ba Bb : Nat) (La Lb : List Int) (w : World) (e : Ending) (w' : World) : Prop :=
  ∃ x La' Lb' va' vb', e = .returned (.int .i64 x) ∧ LCM w' base Ba Bb va' vb' La' Lb' ∧ Below base w w' ∧ ((La = x :: La' ∧ Lb' = Lb ∧ ∀ y L, Lb = y :: L → x ≤ y) ∨ (Lb = x :: Lb' ∧ La' = La ∧ ∀ y L, La = y :: L → x < y))
set_option maxHeartbeats 2000000 in
theorem take_a1 {w : World} {base Ba Bb : Nat} {va vb : Value} {x : Int} {La : List Int} (h : LCM w base Ba Bb va vb (x :: La) []) :
    Calls Try.prog 27 #[.pointer (some ⟨Bb, 0, none⟩), .pointer (some ⟨Ba, 0, none⟩)] w (TakePost base Ba Bb (x :: La) [] w) := by
  obtain ⟨g, off, cap, rfl⟩ := h.qa.at_
  obtain ⟨_, t2, t3, t4⟩ := h.qa.tail
  obtain ⟨A2, c2, e2, _⟩ := h.qb.len
  have hcb := h.cb.cell (show 0 < 1 by omega)
  subst e2
  rw [List.length_nil] at hcb
  have hca := h.ca.cell (show 0 < 1 by omega)
  have hroom := h.ca.frozen 0
  have HT := hid t4
  have H := hid h
  have HO : Hid ((Value.slice (if cap = 1 then some ⟨g, off, none⟩ else some ⟨g, off + 1, none⟩) La.length (cap - 1)).ownBlock = some g) := by
    show _ = _
    by_cases hc : cap = 1
    · rw [if_pos hc]; rfl
    · rw [if_neg hc]; rfl
  clear h t4
  generalize La.length = n at *
  have h0 : (0 : Int) < ((n + 1 : Nat) : Int) := by omega
  have h1 : (1 : Int) ≤ ((n + 1 : Nat) : Int) := by omega
  go_enter Try.func27, Try.ntmps27
  go_wp2
  go_quiet (fail)
  go_wp2
  go_region
  generalize Value.slice (if cap = 1 then some { block := g, off := off } else some { block := g, off := off + 1 }) n (cap - 1) = vv at HT HO ⊢
  go_wp2
  go_ret
  exact ⟨x, La, [], _, _, rfl, (H.out.drewN _).setA HT.out HO.out, (bl_drewN (Below.refl _ _) _).setCell H.out.ha _, .inl ⟨rfl, rfl, fun y L hh => (by cases hh)⟩⟩
set_option maxHeartbeats 2000000 in
theorem take_a2 {w : World} {base Ba Bb : Nat} {va vb : Value} {x y : Int} {La Lb : List Int} (h : LCM w base Ba Bb va vb (x :: La) (y :: Lb)) (hxy : x ≤ y) :
    Calls Try.prog 27 #[.pointer (some ⟨Bb, 0, none⟩), .pointer (some ⟨Ba, 0, none⟩)] w (TakePost base Ba Bb (x :: La) (y :: Lb) w) := by
  obtain ⟨g, off, cap, rfl⟩ := h.qa.at_
  obtain ⟨_, t2, t3, t4⟩ := h.qa.tail
  obtain ⟨g2, off2, cap2, rfl⟩ := h.qb.at_
  obtain ⟨_, s2, s3, _⟩ := h.qb.tail
  have hcb := h.cb.cell (show 0 < 1 by omega)
  obtain ⟨m, hm⟩ : ∃ m, m = Lb.length := ⟨_, rfl⟩
  rw [← hm] at hcb s2
  have HM := hid hm
  clear hm
  have k0 : (0 : Int) < ((m + 1 : Nat) : Int) := by omega
  have k1 : (((m + 1 : Nat) : Int) == 0) = false := beq_eq_false_iff_ne.2 (by omega)
  have hca := h.ca.cell (show 0 < 1 by omega)
  have hroom := h.ca.frozen 0
  have HT := hid t4
  have H := hid h
  have HO : Hid ((Value.slice (if cap = 1 then some ⟨g, off, none⟩ else some ⟨g, off + 1, none⟩) La.length (cap - 1)).ownBlock = some g) := by
    show _ = _
    by_cases hc : cap = 1
    · rw [if_pos hc]; rfl
    · rw [if_neg hc]; rfl
  clear h t4
  generalize La.length = n at *
  have h0 : (0 : Int) < ((n + 1 : Nat) : Int) := by omega
  have h1 : (1 : Int) ≤ ((n + 1 : Nat) : Int) := by omega
  go_enter Try.func27, Try.ntmps27
  go_wp2
  go_quiet (fail)
  go_wp2
  go_region
  generalize Value.slice (if cap = 1 then some { block := g, off := off } else some { block := g, off := off + 1 }) n (cap - 1) = vv at HT HO ⊢
  go_wp2
  go_ret
  exact ⟨x, La, (y :: Lb), _, _, rfl, (H.out.drewN _).setA HT.out HO.out, (bl_drewN (Below.refl _ _) _).setCell H.out.ha _, .inl ⟨rfl, rfl, fun z L hh => (by injection hh with h1 _; omega)⟩⟩
set_option maxHeartbeats 2000000 in
theorem take_b1 {w : World} {base Ba Bb : Nat} {va vb : Value} {y : Int} {Lb : List Int} (h : LCM w base Ba Bb va vb [] (y :: Lb)) :
    Calls Try.prog 27 #[.pointer (some ⟨Bb, 0, none⟩), .pointer (some ⟨Ba, 0, none⟩)] w (TakePost base Ba Bb [] (y :: Lb) w) := by
  obtain ⟨g, off, cap, rfl⟩ := h.qb.at_
  obtain ⟨_, t2, t3, t4⟩ := h.qb.tail
  obtain ⟨A2, c2, e2, _⟩ := h.qa.len
  have hca := h.ca.cell (show 0 < 1 by omega)
  subst e2
  rw [List.length_nil] at hca
  have k0 : decide ((0 : Int) < ((0 : Nat) : Int)) = false := by decide
  have hcb := h.cb.cell (show 0 < 1 by omega)
  have hroom := h.cb.frozen 0
  have HT := hid t4
  have H := hid h
  have HO : Hid ((Value.slice (if cap = 1 then some ⟨g, off, none⟩ else some ⟨g, off + 1, none⟩) Lb.length (cap - 1)).ownBlock = some g) := by
    show _ = _
    by_cases hc : cap = 1
    · rw [if_pos hc]; rfl
    · rw [if_neg hc]; rfl
  clear h t4
  generalize Lb.length = n at *
  have h0 : (0 : Int) < ((n + 1 : Nat) : Int) := by omega
  have h1 : (1 : Int) ≤ ((n + 1 : Nat) : Int) := by omega
  have h2 : (((n + 1 : Nat) : Int) == 0) = false := beq_eq_false_iff_ne.2 (by omega)
  go_enter Try.func27, Try.ntmps27
  go_wp2
  go_quiet (fail)
  go_wp2
  go_region
  generalize Value.slice (if cap = 1 then some { block := g, off := off } else some { block := g, off := off + 1 }) n (cap - 1) = vv at HT HO ⊢
  go_wp2
  go_ret
  exact ⟨y, [], Lb, _, _, rfl, (H.out.drewN _).setB HT.out HO.out, (bl_drewN (Below.refl _ _) _).setCell H.out.hb _, .inr ⟨rfl, rfl, fun z L hh => (by cases hh)⟩⟩
set_option maxHeartbeats 2000000 in
theorem take_b2 {w : World} {base Ba Bb : Nat} {va vb : Value} {x y : Int} {La Lb : List Int} (h : LCM w base Ba Bb va vb (x :: La) (y :: Lb)) (hxy : y < x) :
    Calls Try.prog 27 #[.pointer (some ⟨Bb, 0, none⟩), .pointer (some ⟨Ba, 0, none⟩)] w (TakePost base Ba Bb (x :: La) (y :: Lb) w) := by
  obtain ⟨g, off, cap, rfl⟩ := h.qb.at_
  obtain ⟨_, t2, t3, t4⟩ := h.qb.tail
  obtain ⟨g2, off2, cap2, rfl⟩ := h.qa.at_
  obtain ⟨_, s2, s3, _⟩ := h.qa.tail
  have hca := h.ca.cell (show 0 < 1 by omega)
  obtain ⟨m, hm⟩ : ∃ m, m = La.length := ⟨_, rfl⟩
  rw [← hm] at hca s2
  have HM := hid hm
  clear hm
  have k0 : (0 : Int) < ((m + 1 : Nat) : Int) := by omega
  have k1 : decide (x ≤ y) = false := decide_eq_false (by omega)
  have hcb := h.cb.cell (show 0 < 1 by omega)
  have hroom := h.cb.frozen 0
  have HT := hid t4
  have H := hid h
  have HO : Hid ((Value.slice (if cap = 1 then some ⟨g, off, none⟩ else some ⟨g, off + 1, none⟩) Lb.length (cap - 1)).ownBlock = some g) := by
    show _ = _
    by_cases hc : cap = 1
    · rw [if_pos hc]; rfl
    · rw [if_neg hc]; rfl
  clear h t4
  generalize Lb.length = n at *
  have h0 : (0 : Int) < ((n + 1 : Nat) : Int) := by omega
  have h1 : (1 : Int) ≤ ((n + 1 : Nat) : Int) := by omega
  have h2 : (((n + 1 : Nat) : Int) == 0) = false := beq_eq_false_iff_ne.2 (by omega)
  go_enter Try.func27, Try.ntmps27
  go_wp2
  go_quiet (fail)
  go_wp2
  go_region
  generalize Value.slice (if cap = 1 then some { block := g, off := off } else some { block := g, off := off + 1 }) n (cap - 1) = vv at HT HO ⊢
  go_wp2
  go_ret
  exact ⟨y, (x :: La), Lb, _, _, rfl, (H.out.drewN _).setB HT.out HO.out, (bl_drewN (Below.refl _ _) _).setCell H.out.hb _, .inr ⟨rfl, rfl, fun z L hh => (by injection hh with h1 _; omega)⟩⟩
theorem take_any {w : World} {base Ba Bb : Nat} {va vb : Value} {La Lb : List Int} (h : LCM w base Ba Bb va vb La Lb) (h0 : 0 < La.length + Lb.length) :
    Calls Try.prog 27 #[.pointer (some ⟨Bb, 0, none⟩), .pointer (some ⟨Ba, 0, none⟩)] w (TakePost base Ba Bb La Lb w) := by
  match La, Lb, h, h0 with
  | [], [], _, h0 => exact absurd h0 (by decide)
  | x :: La, [], h, _ => exact take_a1 h
  | [], y :: Lb, h, _ => exact take_b1 h
  | x :: La, y :: Lb, h, _ =>
    by_cases hxy : x ≤ y
    · exact take_a2 h hxy
    · exact take_b2 h (by omega)
end Go.Proofs.Ytppochjhodafdaa
