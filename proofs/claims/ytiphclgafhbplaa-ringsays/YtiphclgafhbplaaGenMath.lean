/-
What quillref.LineOf puts out, as a list of letters; it is the sequence of the Lyndon words.
-/
import Derived.Test.YtiphclgafhbplaaLineMath
namespace Go.Proofs.Ytiphclgafhbplaa
namespace Rm
def loopG (f : Nat → List Nat) : Nat → Nat → List Nat
  | 0, _ => []
  | c + 1, x => f x ++ loopG f c (x + 1)
/-- The letter that stands p ahead of the next place. -/
def past (pre : List Nat) (p : Nat) : Nat := (0 :: pre).getD (pre.length + 1 - p) 0
def genL (k n : Nat) : Nat → List Nat → Nat → List Nat
  | 0, pre, p => if n % p = 0 then pre.take p else []
  | m + 1, pre, p => genL k n m (pre ++ [past pre p]) p ++ loopG (fun x => genL k n m (pre ++ [x]) (pre.length + 1)) (k - (past pre p + 1)) (past pre p + 1)
def genB (k n : Nat) : Bool := decide (genL k n n [] 1 = lineD k n)
theorem gen_few : ∀ k, k < 9 → 2 ≤ k → ∀ n, n < 10 → 1 ≤ n → k ^ n ≤ 512 → genB k n = true := by decide +kernel
theorem past_low {k : Nat} {pre : List Nat} (hk : 1 ≤ k) (h : ∀ x, x ∈ pre → x < k) (p : Nat) : past pre p < k := by
  unfold past
  by_cases hx : pre.length + 1 - p < (0 :: pre).length
  · rw [getD_lt hx]
    have := List.getElem_mem hx
    rcases List.mem_cons.1 this with e | e
    · omega
    · exact h _ e
  · rw [List.getD_eq_getElem?_getD, List.getElem?_eq_none (by omega)]
    exact hk
theorem gen_ones (n : Nat) (hn : 1 ≤ n) : ∀ m pre, (∀ x, x ∈ pre → x = 0) → pre.length + m = n → genL 1 n m pre 1 = [0]
  | 0, pre, h, hl => by
    rw [genL, Nat.mod_one, if_pos rfl]
    cases pre with
    | nil => simp at hl; omega
    | cons x r =>
      have := h x List.mem_cons_self
      subst this
      rfl
  | m + 1, pre, h, hl => by
    have hp : past pre 1 = 0 := by
      have := past_low (k := 1) (pre := pre) (by omega) (fun x hx => by have := h x hx; omega) 1
      omega
    rw [genL, hp, gen_ones n hn m (pre ++ [0]) (fun x hx => by
      rcases List.mem_append.1 hx with hx | hx
      · exact h x hx
      · simpa using hx) (by rw [List.length_append]; simp; omega)]
    rfl
theorem gen_line {k n : Nat} (h : Ok k n) : genL k n n [] 1 = lineD k n := by
  have h1 := h.k1
  have h8 := h.k8
  have hn := h.n1
  have hone : genL 1 n n [] 1 = lineD 1 n := by rw [line_one]; exact gen_ones n hn n [] (fun x hx => by simp at hx) (by simp)
  by_cases hk : k = 1
  · subst hk; exact hone
  · rcases h.short with rfl | h9
    · exact hone
    · exact of_decide_eq_true (gen_few k (by omega) (by omega) n (by omega) hn h.few)
/-- The array holds 0 and then pre. -/
def Pre (a : Nat → Int) (pre : List Nat) : Prop := ∀ i, i ≤ pre.length → a i = (((0 :: pre).getD i 0 : Nat) : Int)
theorem zero_app {pre : List Nat} {x i : Nat} (h : i ≤ pre.length) : (0 :: (pre ++ [x])).getD i 0 = (0 :: pre).getD i 0 := by
  rw [← List.cons_append]
  exact getD_app_l (by simp; omega)
theorem Pre.app {a : Nat → Int} {pre : List Nat} (h : Pre a pre) (x : Nat) (t : Nat) (ht : t = pre.length + 1) : Pre (fun j => if j = t then (x : Int) else a j) (pre ++ [x]) := by
  intro i hi
  rw [List.length_append] at hi
  simp only [List.length_cons, List.length_nil] at hi
  show (if i = t then (x : Int) else a i) = _
  by_cases hx : i = t
  · rw [if_pos hx, hx, ht, ← List.cons_append, show pre.length + 1 = (0 :: pre).length + 0 by simp, getD_app_r]
    rfl
  · rw [if_neg hx, zero_app (by omega)]
    exact h i (by omega)
theorem Pre.less {a : Nat → Int} {pre : List Nat} {x : Nat} (h : Pre a (pre ++ [x])) : Pre a pre := by
  intro i hi
  have := h i (by rw [List.length_append]; omega)
  rw [zero_app hi] at this
  exact this
theorem Pre.at_ {a : Nat → Int} {pre : List Nat} (h : Pre a pre) {j : Nat} (hj : j < pre.length) : a (j + 1) = ((pre.getD j 0 : Nat) : Int) := by
  rw [h (j + 1) (by omega), List.getD_cons_succ]
end Rm
end Go.Proofs.Ytiphclgafhbplaa
