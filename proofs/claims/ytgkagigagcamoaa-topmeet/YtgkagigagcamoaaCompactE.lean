
/-
The contract of slices.Compact at []api.Edit.
-/
import Derived.Test.YtgkagigagcamoaaSeg47
import Derived.Test.YtgkagigagcamoaaStabE
import Derived.Lib.SliceRun
import Derived.Laws.IdiomCopy
import Derived.Deep.Upon
namespace Go.Proofs.Ytgkagigagcamoaa
open Go.RowKit

/-- The first k edits, what is the same as the one ahead left out. -/
def cp (h : Nat → Es.Ev) : Nat → List Es.Ev
  | 0 => []
  | k + 1 => if (decide (0 < k) && Es.sm (h k) (h (k - 1))) = true then cp h k else cp h k ++ [h k]
theorem cp_if {h : Nat → Es.Ev} {k : Nat} : (decide (0 < k) && Es.sm (h k) (h (k - 1))) = true ↔ 0 < k ∧ h k = h (k - 1) := by
  rw [Bool.and_eq_true, decide_eq_true_iff, Es.sm_iff]
theorem cp_skip {h : Nat → Es.Ev} {k : Nat} (h0 : 0 < k) (e : h k = h (k - 1)) : cp h (k + 1) = cp h k := by
  rw [cp, if_pos (cp_if.2 ⟨h0, e⟩)]
theorem cp_more {h : Nat → Es.Ev} {k : Nat} (e : h k ≠ h (k - 1)) : cp h (k + 1) = cp h k ++ [h k] := by
  rw [cp, if_neg fun q => e (cp_if.1 q).2]
theorem cp_one (h : Nat → Es.Ev) : cp h 1 = [h 0] := by simp [cp]
theorem cp_le (h : Nat → Es.Ev) : ∀ k, (cp h k).length ≤ k
  | 0 => Nat.le_refl _
  | k + 1 => by
    have := cp_le h k
    rw [cp]
    split
    · omega
    · rw [List.length_append]; simp; omega
theorem cp_mem {h : Nat → Es.Ev} {x : Es.Ev} : ∀ {n : Nat}, x ∈ cp h n ↔ x ∈ el h n
  | 0 => by simp [cp, el]
  | k + 1 => by
    have ih := cp_mem (h := h) (x := x) (n := k)
    rw [el_succ, List.mem_append, List.mem_singleton, cp]
    split
    · rename_i hc
      have hc := cp_if.1 hc
      rw [ih]
      constructor
      · exact .inl
      · rintro (m | m)
        · exact m
        · rw [m, hc.2]
          unfold el
          exact List.mem_map.2 ⟨k - 1, List.mem_range.2 (by omega), rfl⟩
    · rw [List.mem_append, List.mem_singleton, ih]
/-- Of a row in order, where edits at one place are the same, each place once is left. -/
theorem cp_inc {h : Nat → Es.Ev} : ∀ {n : Nat}, (∀ i j, i < j → j < n → (h i).a ≤ (h j).a) → (∀ i j, i < j → j < n → (h i).a = (h j).a → h i = h j) → Es.Inc (cp h n)
  | 0, _, _ => List.Pairwise.nil
  | k + 1, hs, he => by
    have ih := cp_inc (h := h) (n := k) (fun i j a b => hs i j a (by omega)) (fun i j a b => he i j a (by omega))
    rw [cp]
    split
    · exact ih
    · rename_i hc
      refine List.pairwise_append.2 ⟨ih, List.pairwise_singleton _ _, fun x hx y hy => ?_⟩
      rw [List.mem_singleton] at hy
      subst hy
      have hx := cp_mem.1 hx
      unfold el at hx
      obtain ⟨i, hi, rfl⟩ := List.mem_map.1 hx
      have hi := List.mem_range.1 hi
      have h0 : 0 < k := by omega
      have hne : h k ≠ h (k - 1) := fun e => hc (cp_if.2 ⟨h0, e⟩)
      have a1 : (h (k - 1)).a ≤ (h k).a := hs (k - 1) k (by omega) (by omega)
      have a2 : (h (k - 1)).a ≠ (h k).a := fun e => hne (he (k - 1) k (by omega) (by omega) e).symm
      have a3 : (h i).a ≤ (h (k - 1)).a := by
        by_cases c : i = k - 1
        · rw [c]; exact Int.le_refl _
        · exact hs i (k - 1) (by omega) (by omega)
      omega

/-- Edits in block b from o on; nothing else has changed since w0. -/
structure CR (w0 : World) (b o n : Nat) (h : Nat → Es.Ev) (w : World) : Prop where
  row : ∀ k, k < n → Ev3 w b (o + k * 3) (h k)
  gr : w0.grownBy w (some b)
  lt : b < w.heap.size
theorem CR.drewN {w0 w : World} {b o n : Nat} {h : Nat → Es.Ev} (H : CR w0 b o n h w) (d : Nat) : CR w0 b o n h (w.drewN d) := ⟨H.row, ⟨H.gr.os, H.gr.tape, H.gr.output, H.gr.size, H.gr.block⟩, H.lt⟩
theorem CR.put {w0 w : World} {b o n : Nat} {h : Nat → Es.Ev} (H : CR w0 b o n h w) {k : Nat} (hk : k < n) (x : Es.Ev) : CR w0 b o n (fun j => if j = k then x else h j) (put3 w b (o + k * 3) x) := by
  refine ⟨fun j hj => ?_, gsetE (gsetE (gsetE H.gr)), by unfold put3; simpa using H.lt⟩
  by_cases e : j = k
  · subst e
    simp only [if_pos]
    exact put3_same (H.row j hj)
  · simp only [if_neg e]
    exact put3_other (H.row j hj) (by omega)
/-- What 'clear' leaves of what lies ahead. -/
theorem CR.clear {w0 w : World} {b o n : Nat} {h : Nat → Es.Ev} (H : CR w0 b o n h w) {k : Nat} (hk : k < n) (c : Nat) :
    ∃ w', (∀ ty, (Builtin.clear_ #[54] ty #[.slice (some ⟨b, o + k * 3, none⟩) (n - k) c]).run Try.prog w = .ok (.tuple #[]) w') ∧ CR w0 b o k h w' := by
  obtain ⟨i0, hi, hz0, hz1, hz2⟩ := info_parts Try.infoEv
  have hv : ∀ w, (zeroValue 59).run Try.prog w = .ok (.agg #[.int .i64 0, .int .i64 0, .string ⟨#[]⟩]) w := fun w => by
    simp [zeroValue, typeInfo, hi, hz0]
  obtain ⟨vs, hvs⟩ : ∃ vs, vs = (Builtin.zeroCells (Value.agg #[.int .i64 0, .int .i64 0, .string ⟨#[]⟩]).cells (n - k)).toList := ⟨_, rfl⟩
  have hsz : (Value.agg #[.int .i64 0, .int .i64 0, .string ⟨#[]⟩]).cells = #[.int .i64 0, .int .i64 0, .string ⟨#[]⟩] := by rfl
  have hvl : vs.length = (n - k) * 3 := by rw [hvs, hsz]; simp [Builtin.zeroCells]
  have hv1 : ∀ v ∈ vs, v.oneCell' = true := by
    intro v hv
    rw [hvs, hsz] at hv
    simp only [Builtin.zeroCells, Array.toList_map, List.mem_map] at hv
    obtain ⟨j, _, rfl⟩ := hv
    have : j % 3 < 3 := Nat.mod_lt _ (by omega)
    obtain e | e | e : j % 3 = 0 ∨ j % 3 = 1 ∨ j % 3 = 2 := by omega
    · simp [e, Value.oneCell']
    · simp [e, Value.oneCell']
    · simp [e, Value.oneCell']
  have hcell : ∀ j, j < vs.length → (w.cell? ⟨b, o + k * 3 + j, none⟩).isSome = true ∧ w.frozen? ⟨b, o + k * 3 + j, none⟩ = false := fun j hj => by
    rw [hvl] at hj
    obtain ⟨q, r, hr3, rfl⟩ : ∃ q r, r < 3 ∧ j = q * 3 + r := ⟨j / 3, j % 3, Nat.mod_lt _ (by decide), by omega⟩
    obtain ⟨a1, a2, a3, a4, a5, a6⟩ := H.row (k + q) (by omega)
    match r, hr3 with
    | 0, _ => rw [show o + k * 3 + (q * 3 + 0) = o + (k + q) * 3 by omega, a1, a4]; exact ⟨rfl, rfl⟩
    | 1, _ => rw [show o + k * 3 + (q * 3 + 1) = o + (k + q) * 3 + 1 by omega, a2, a5]; exact ⟨rfl, rfl⟩
    | 2, _ => rw [show o + k * 3 + (q * 3 + 2) = o + (k + q) * 3 + 2 by omega, a3, a6]; exact ⟨rfl, rfl⟩
  have hst := run_storeCells_cells (P := Try.prog) b (o + k * 3) vs 0 w (by simpa using fun j hj => (hcell j hj).1) (by simpa using fun j hj => (hcell j hj).2) hv1
  simp only [Nat.add_zero] at hst
  have hkb := World.keptBut_setCells b (may := fun _ => True) vs (o + k * 3) w (fun _ _ => trivial)
  have hheap : ∀ (vs : List Value) (o : Nat) (w : World), (w.setCells b o vs).heap.size = w.heap.size ∧ (w.setCells b o vs).tape = w.tape := by
    intro vs
    induction vs with
    | nil => exact fun _ _ => ⟨rfl, rfl⟩
    | cons v r ih =>
      intro o w
      have := ih (o + 1) (w.setCell ⟨b, o, none⟩ v)
      exact ⟨this.1.trans (by simp), this.2⟩
  have hh := hheap vs (o + k * 3) w
  refine ⟨w.setCells b (o + k * 3) vs, fun ty => ?_, fun j hj => ?_, ⟨?_, ?_, ?_, ?_, ?_⟩, ?_⟩
  · obtain ⟨m, hm⟩ : ∃ m, n - k = m + 1 := ⟨n - k - 1, by omega⟩
    rw [hm] at hvs ⊢
    simp [Builtin.clear_, run_underlying Try.underlying54, hv, ← hvs, hst]
  · obtain ⟨a1, a2, a3, a4, a5, a6⟩ := H.row j (by omega)
    have out : ∀ p, p < o + k * 3 → (w.setCells b (o + k * 3) vs).cell? ⟨b, p, none⟩ = w.cell? ⟨b, p, none⟩ := fun p hp => World.cell?_setCells_out b vs (o + k * 3) w ⟨b, p, none⟩ (fun _ _ => .inl hp)
    have fr : ∀ p, (w.setCells b (o + k * 3) vs).frozen? ⟨b, p, none⟩ = w.frozen? ⟨b, p, none⟩ := fun p => World.frozen?_setCells b vs (o + k * 3) w ⟨b, p, none⟩
    unfold Ev3
    rw [out _ (by omega), out _ (by omega), out _ (by omega), fr, fr, fr]
    exact ⟨a1, a2, a3, a4, a5, a6⟩
  · exact (World.os_setCells w b (o + k * 3) vs).trans H.gr.os
  · exact hh.2.trans H.gr.tape
  · exact (World.output_setCells w b (o + k * 3) vs).trans H.gr.output
  · rw [hh.1]; exact H.gr.size
  · intro i hi hne
    have : i < w.heap.size := Nat.lt_of_lt_of_le hi H.gr.size
    exact (World.heap_setCells_other w b (o + k * 3) vs this (fun e => hne (by rw [e]))).trans (H.gr.block i hi hne)
  · rw [hh.1]; exact H.lt
/-- What Compact leaves. -/
def CpPost (w : World) (b o c : Nat) (L : List Es.Ev) (e : Ending) (w' : World) : Prop :=
  e = .returned (.slice (some ⟨b, o, none⟩) L.length c) ∧ CR w b o L.length (fun k => L.getD k Es.none_) w'
end Go.Proofs.Ytgkagigagcamoaa
