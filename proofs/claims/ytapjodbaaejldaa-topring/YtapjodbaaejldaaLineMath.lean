
/-
The sequence of package ring as a list of letters (numbers from 0 on): the Lyndon words in their order, those whose length divides n joined. What follows a word, and that it is what lyndon.Next answers.
-/
import Derived.Test.YtapjodbaaejldaaLNext
import Derived.Test.YtapjodbaaejldaaMathAll
namespace Go.Proofs.Ytapjodbaaejldaa

theorem NextSpec.lyn {s r : ByteArray} {n last : Nat} (h : NextSpec s n last r) (hs : LynS s) (h0 : 0 < r.size) : LynS r ∧ wd s < wd r := by
  have hl : Lm.LynF (fb s) s.size := by have h := hs; unfold LynS Lm.Lyn at h; rwa [wd_len] at h
  have key := Lm.next_great (f := fb s) (h := fb r) hl h0 (fun i hi => h.front i (by omega)) (h.tip h0).1
  refine ⟨?_, ?_⟩
  · unfold LynS Lm.Lyn; rw [wd_len]; exact key.1
  · rw [Lm.lt_iff, wd_len, wd_len]; exact key.2

/-- The string of letters. -/
def sd (d : List Nat) : ByteArray := ⟨(d.map fun x => UInt8.ofNat (97 + x)).toArray⟩
theorem wd_sd (d : List Nat) : wd (sd d) = d.map fun x => UInt8.ofNat (97 + x) := by unfold sd; rw [wd_mk]
theorem sd_size (d : List Nat) : (sd d).size = d.length := by rw [← wd_len, wd_sd, List.length_map]
theorem sd_at {d : List Nat} {i : Nat} (hi : i < d.length) (hd : ∀ x, x ∈ d → x < 100) : fb (sd d) i = 97 + d.getD i 0 := by
  unfold fb Lm.bn
  rw [wd_sd, List.getD_eq_getElem?_getD, List.getElem?_map, List.getElem?_eq_getElem hi, getD_lt hi]
  simp only [Option.map_some, Option.getD_some]
  have := hd _ (List.getElem_mem hi)
  exact UInt8.toNat_ofNat_of_lt' (by show _ < 256; omega)
theorem sd_app (a b : List Nat) : wd (sd (a ++ b)) = wd (sd a) ++ wd (sd b) := by rw [wd_sd, wd_sd, wd_sd, List.map_append]
theorem sd_nil : sd [] = ByteArray.empty := rfl

namespace Rm
/-- The first n letters of the repetition of d. -/
def widen (n : Nat) (d : List Nat) : List Nat := (List.range n).map fun i => d.getD (i % d.length) 0
def bumpR (k : Nat) : List Nat → List Nat
  | [] => []
  | x :: r => if x + 1 = k then bumpR k r else (x + 1) :: r
/-- What follows d. -/
def nextD (k n : Nat) (d : List Nat) : List Nat := (bumpR k (widen n d).reverse).reverse
/-- What of d comes into the sequence. -/
def part (n : Nat) (d : List Nat) : List Nat := if n % d.length = 0 then d else []
def runD (k n : Nat) : Nat → List Nat → Option (List Nat)
  | 0, _ => none
  | f + 1, d => match nextD k n d with
    | [] => some (part n d)
    | x :: r => (runD k n f (x :: r)).map (part n d ++ ·)
def lineD (k n : Nat) : List Nat := (runD k n 600 [0]).getD []

theorem widen_len (n : Nat) (d : List Nat) : (widen n d).length = n := by unfold widen; simp
theorem widen_at {n : Nat} {d : List Nat} {i : Nat} (h : i < n) : (widen n d).getD i 0 = d.getD (i % d.length) 0 := by
  unfold widen
  simp [List.getD_eq_getElem?_getD, List.getElem?_range h]
theorem bumpR_is (k : Nat) : ∀ l : List Nat, (bumpR k l = [] ∧ ∀ x, x ∈ l → x + 1 = k) ∨ ∃ a x b, l = a ++ x :: b ∧ (∀ y, y ∈ a → y + 1 = k) ∧ x + 1 ≠ k ∧ bumpR k l = (x + 1) :: b
  | [] => .inl ⟨rfl, fun x hx => by simp at hx⟩
  | x :: r => by
    by_cases hx : x + 1 = k
    · rw [bumpR, if_pos hx]
      rcases bumpR_is k r with ⟨h1, h2⟩ | ⟨a, y, b, h1, h2, h3, h4⟩
      · refine .inl ⟨h1, fun z hz => ?_⟩
        rcases List.mem_cons.1 hz with rfl | hz
        · exact hx
        · exact h2 z hz
      · refine .inr ⟨x :: a, y, b, by rw [h1]; rfl, fun z hz => ?_, h3, h4⟩
        rcases List.mem_cons.1 hz with rfl | hz
        · exact hx
        · exact h2 z hz
    · rw [bumpR, if_neg hx]
      exact .inr ⟨[], x, r, rfl, fun y hy => by simp at hy, hx, rfl⟩
theorem next_is (k n : Nat) (d : List Nat) : (nextD k n d = [] ∧ ∀ x, x ∈ widen n d → x + 1 = k) ∨ ∃ b x a, widen n d = b ++ x :: a ∧ (∀ y, y ∈ a → y + 1 = k) ∧ x + 1 ≠ k ∧ nextD k n d = b ++ [x + 1] := by
  rcases bumpR_is k (widen n d).reverse with ⟨h1, h2⟩ | ⟨a, x, b, h1, h2, h3, h4⟩
  · exact .inl ⟨by unfold nextD; rw [h1]; rfl, fun x hx => h2 x (List.mem_reverse.2 hx)⟩
  · refine .inr ⟨b.reverse, x, a.reverse, ?_, fun y hy => h2 y (List.mem_reverse.1 hy), h3, ?_⟩
    · have := congrArg List.reverse h1
      rw [List.reverse_reverse] at this
      rw [this]
      simp
    · unfold nextD
      rw [h4]
      simp
theorem widen_mem {k n : Nat} {d : List Nat} (h0 : 0 < d.length) (hd : ∀ x, x ∈ d → x < k) : ∀ x, x ∈ widen n d → x < k := by
  intro x hx
  unfold widen at hx
  obtain ⟨i, _, rfl⟩ := List.mem_map.1 hx
  have := Nat.mod_lt i h0
  rw [getD_lt this]
  exact hd _ (List.getElem_mem this)
theorem next_mem {k n : Nat} {d : List Nat} (h0 : 0 < d.length) (hd : ∀ x, x ∈ d → x < k) : ∀ x, x ∈ nextD k n d → x < k := by
  intro x hx
  have hw := widen_mem (n := n) h0 hd
  rcases next_is k n d with ⟨h1, _⟩ | ⟨b, y, a, h1, h2, h3, h4⟩
  · rw [h1] at hx; simp at hx
  · rw [h4] at hx
    rcases List.mem_append.1 hx with hx | hx
    · exact hw x (by rw [h1]; exact List.mem_append_left _ hx)
    · have := hw y (by rw [h1]; simp)
      simp at hx
      omega
theorem next_len (k n : Nat) (d : List Nat) : (nextD k n d).length ≤ n := by
  rcases next_is k n d with ⟨h1, _⟩ | ⟨b, y, a, h1, h2, h3, h4⟩
  · rw [h1]; simp
  · have := congrArg List.length h1
    rw [widen_len, List.length_append, List.length_cons] at this
    rw [h4, List.length_append]
    simp
    omega
end Rm
theorem getD_app_l {l m : List Nat} {i : Nat} (h : i < l.length) : (l ++ m).getD i 0 = l.getD i 0 := by simp [List.getD_eq_getElem?_getD, List.getElem?_append_left h]
theorem getD_app_r (l m : List Nat) (i : Nat) : (l ++ m).getD (l.length + i) 0 = m.getD i 0 := by
  rw [List.getD_eq_getElem?_getD, List.getElem?_append_right (by omega), List.getD_eq_getElem?_getD]
  congr 2
  omega
theorem next_sd {k n : Nat} {d : List Nat} (h1 : 1 ≤ k) (h8 : k ≤ 8) (h0 : 0 < d.length) (hd : ∀ x, x ∈ d → x < k) : NextSpec (sd d) n (96 + k) (sd (Rm.nextD k n d)) := by
  have hb : ∀ x, x ∈ d → x < 100 := fun x hx => by have := hd x hx; omega
  have hnb : ∀ x, x ∈ Rm.nextD k n d → x < 100 := fun x hx => by have := Rm.next_mem h0 hd x hx; omega
  have hat : ∀ i, i < n → fb (sd d) (i % (sd d).size) = 97 + (Rm.widen n d).getD i 0 := by
    intro i hi
    rw [sd_size, sd_at (Nat.mod_lt _ h0) hb, Rm.widen_at hi]
  have hl := Rm.next_len k n d
  have hwl := Rm.widen_len n d
  rcases Rm.next_is k n d with ⟨e1, e2⟩ | ⟨b, y, a, e1, e2, e3, e4⟩
  · rw [e1]
    refine ⟨by rw [sd_size]; simp, fun i hi => by rw [sd_size] at hi; simp at hi, fun hi => by rw [sd_size] at hi; simp at hi, fun i _ hi => ?_⟩
    rw [hat i hi, getD_lt (by omega)]
    have := e2 _ (List.getElem_mem (show i < (Rm.widen n d).length by omega))
    omega
  · have hll : (Rm.nextD k n d).length = b.length + 1 := by rw [e4]; simp
    have hlen := congrArg List.length e1
    rw [hwl, List.length_append, List.length_cons] at hlen
    refine ⟨by rw [sd_size]; exact hl, fun i hi => ?_, fun hi => ?_, fun i h2 hi => ?_⟩
    · rw [sd_size, hll] at hi
      rw [hat i (by omega), sd_at (by omega) hnb, e4, e1, getD_app_l (by omega), getD_app_l (by omega)]
    · rw [sd_size, hll]
      rw [show b.length + 1 - 1 = b.length + 0 by omega, hat _ (by omega), sd_at (by omega) hnb, e4, e1, getD_app_r, getD_app_r]
      simp
      omega
    · rw [sd_size, hll] at h2
      rw [hat i hi, e1, show i = b.length + (i - b.length) by omega, getD_app_r]
      have h3 : i - b.length = (i - b.length - 1) + 1 := by omega
      rw [h3, List.getD_cons_succ, getD_lt (by omega)]
      have := e2 _ (List.getElem_mem (show i - b.length - 1 < a.length by omega))
      omega
namespace Rm
theorem run_few : ∀ k, k < 9 → ∀ n, n < 10 → k ^ n ≤ 512 → 2 ≤ k → 1 ≤ n → (runD k n 600 [0]).isSome = true := by decide +kernel
theorem run_one (n : Nat) : runD 1 n 600 [0] = some [0] := by
  have h1 : nextD 1 n [0] = [] := by
    rcases next_is 1 n [0] with ⟨h, _⟩ | ⟨b, y, a, h1, h2, h3, h4⟩
    · exact h
    · have := widen_mem (k := 1) (n := n) (d := [0]) (by simp) (by simp) y (by rw [h1]; simp)
      omega
  rw [runD, h1]
  simp [part, Nat.mod_one]
theorem run_is {k n : Nat} (h : Ok k n) : runD k n 600 [0] = some (lineD k n) := by
  unfold lineD
  rcases h.short with rfl | h9
  · rw [run_one]; rfl
  · by_cases hk : k = 1
    · subst hk; rw [run_one]; rfl
    · have := run_few k (by have := h.k8; omega) n (by omega) h.few (by have := h.k1; omega) h.n1
      obtain ⟨l, hl⟩ := Option.isSome_iff_exists.1 this
      rw [hl]
      rfl
theorem line_one (n : Nat) : lineD 1 n = [0] := by unfold lineD; rw [run_one]; rfl
end Rm
end Go.Proofs.Ytapjodbaaejldaa
