
/-
The contracts of turn.lesser and turn.step: how many bytes are less, and a step of the way back.
-/
import Derived.Test.YtejcijlmpiiffaaTPut
namespace Go.Proofs.Ytejcijlmpiiffaa
open Go.RowKit

/-- How many of the first m bytes of s are b. -/
def eqN (s : ByteArray) (b m : Nat) : Nat := Tm.cnt (fun i => decide (Lm.bn (lst s) i = b)) m
/-- How many bytes of s are less than b. -/
def lsN (s : ByteArray) (b : Nat) : Nat := Tm.cnt (fun i => decide (Lm.bn (lst s) i < b)) s.size
theorem bn_byte {s : ByteArray} {i : Nat} (h : i < s.size) : Lm.bn (lst s) i = s[i].toNat := by unfold Lm.bn; rw [lst_get, byt_eq h]
theorem sp_is (s : ByteArray) (b m : Nat) : Tm.sp (lst s) b m = lsN s b + eqN s b m := by unfold Tm.sp lsN eqN; rw [lst_len]
theorem eqN_succ {s : ByteArray} {i : Nat} (h : i < s.size) (b : Nat) : eqN s b (i + 1) = if b = s[i].toNat then eqN s b i + 1 else eqN s b i := by
  unfold eqN
  rw [show Tm.cnt (fun i => decide (Lm.bn (lst s) i = b)) (i + 1) = Tm.cnt (fun i => decide (Lm.bn (lst s) i = b)) i + (decide (Lm.bn (lst s) i = b)).toNat from rfl, bn_byte h]
  by_cases e : b = s[i].toNat
  · rw [if_pos e, decide_eq_true e.symm]; rfl
  · rw [if_neg e, decide_eq_false (fun h => e h.symm)]; rfl
theorem eqN_le (s : ByteArray) (b m : Nat) : eqN s b m ≤ m := Tm.cnt_le _ _
theorem lsN_le (s : ByteArray) (b : Nat) : lsN s b ≤ s.size := Tm.cnt_le _ _
theorem lsN_zero (s : ByteArray) : lsN s 0 = 0 := by
  have := Tm.cnt_mono (n := s.size) (P := fun i => decide (Lm.bn (lst s) i < 0)) (Q := fun i => decide (i < 0)) fun j _ h => by simp at h
  rw [Tm.cnt_below] at this
  unfold lsN
  omega
theorem lsN_succ (s : ByteArray) (b : Nat) : lsN s (b + 1) = lsN s b + eqN s b s.size := by
  unfold lsN eqN
  refine Tm.cnt_or (fun j _ h => ?_) (fun j _ => ?_)
  · simp at h; omega
  · rw [← Bool.decide_or]
    exact decide_eq_decide.2 (by omega)
/-- The array that turn.lesser hands back. -/
def lesA (s : ByteArray) : Array Value := ((List.range 256).map fun b => Value.int .i64 (lsN s b : Int)).toArray
theorem below_setRow {w wr : World} {N : Nat} (h : Below N w wr) (cs : Array Value) : Below N w (wr.setRow N cs) :=
  ⟨h.os, h.tape, h.output, by have := h.size; simpa [World.setRow] using this, fun k hk => (setRow_other wr N k cs (by omega)).trans (h.block k hk)⟩
theorem lesA_size (s : ByteArray) : (lesA s).size = 256 := by unfold lesA; simp
theorem lesA_one (s : ByteArray) : (lesA s).all (·.oneCell') = true := by
  unfold lesA
  rw [Array.all_eq_true_iff_forall_mem]
  intro v hv
  simp at hv
  obtain ⟨_, _, rfl⟩ := hv
  rfl
end Go.Proofs.Ytejcijlmpiiffaa
