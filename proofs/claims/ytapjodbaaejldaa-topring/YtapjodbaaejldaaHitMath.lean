
/-
Each word of n letters begins at just one place of the sequence (read as a ring): by all of the few cases.
-/
import Derived.Test.YtapjodbaaejldaaLineMath
namespace Go.Proofs.Ytapjodbaaejldaa
namespace Rm
/-- The n letters from place i on, read as a ring. -/
def win (L : List Nat) (n i : Nat) : List Nat := (List.range n).map fun j => L.getD ((i + j) % L.length) 0
/-- How many of the first m places b begins at. -/
def hc (L : List Nat) (n : Nat) (b : List Nat) : Nat → Nat
  | 0 => 0
  | m + 1 => hc L n b m + if win L n m = b then 1 else 0
def code (k : Nat) : List Nat → Nat
  | [] => 0
  | x :: r => x + k * code k r
def cc (c : Nat → Nat) (v : Nat) : Nat → Nat
  | 0 => 0
  | m + 1 => cc c v m + if c m = v then 1 else 0
theorem code_lt {k : Nat} : ∀ {l : List Nat}, (∀ x, x ∈ l → x < k) → code k l < k ^ l.length
  | [], _ => by simp [code]
  | x :: r, h => by
    have h1 := code_lt (k := k) (l := r) fun y hy => h y (List.mem_cons_of_mem _ hy)
    have h2 := h x List.mem_cons_self
    rw [code, List.length_cons, Nat.pow_succ, Nat.mul_comm (k ^ r.length)]
    have h3 : k * (code k r + 1) ≤ k * k ^ r.length := Nat.mul_le_mul_left _ h1
    rw [Nat.mul_add] at h3
    omega
theorem code_inj {k : Nat} : ∀ {a b : List Nat}, a.length = b.length → (∀ x, x ∈ a → x < k) → (∀ x, x ∈ b → x < k) → code k a = code k b → a = b
  | [], [], _, _, _, _ => rfl
  | [], _ :: _, h, _, _, _ => by simp at h
  | _ :: _, [], h, _, _, _ => by simp at h
  | x :: r, y :: q, h, h1, h2, h3 => by
    have hx := h1 x List.mem_cons_self
    have hy := h2 y List.mem_cons_self
    rw [code, code] at h3
    have e1 := congrArg (· % k) h3
    simp only [Nat.add_mul_mod_self_left, Nat.mod_eq_of_lt hx, Nat.mod_eq_of_lt hy] at e1
    subst e1
    have e2 : code k r = code k q := Nat.eq_of_mul_eq_mul_left (show 0 < k by omega) (by omega)
    rw [code_inj (by simpa using h) (fun z hz => h1 z (List.mem_cons_of_mem _ hz)) (fun z hz => h2 z (List.mem_cons_of_mem _ hz)) e2]
theorem win_get {L : List Nat} {n i j : Nat} (h : j < (win L n i).length) : (win L n i)[j] = L.getD ((i + j) % L.length) 0 := by simp [win]
theorem win_len (L : List Nat) (n i : Nat) : (win L n i).length = n := by unfold win; simp
theorem win_mem {k : Nat} {L : List Nat} (h0 : 0 < L.length) (h : ∀ x, x ∈ L → x < k) (n i : Nat) : ∀ x, x ∈ win L n i → x < k := by
  intro x hx
  unfold win at hx
  obtain ⟨j, _, rfl⟩ := List.mem_map.1 hx
  have := Nat.mod_lt (i + j) h0
  rw [getD_lt this]
  exact h _ (List.getElem_mem this)
theorem hc_cc {k n : Nat} {L b : List Nat} (h0 : 0 < L.length) (h : ∀ x, x ∈ L → x < k) (hb : b.length = n) (hd : ∀ x, x ∈ b → x < k) : ∀ m, hc L n b m = cc (fun i => code k (win L n i)) (code k b) m
  | 0 => rfl
  | m + 1 => by
    rw [hc, cc, hc_cc h0 h hb hd m]
    by_cases hx : win L n m = b
    · rw [if_pos hx, if_pos (by rw [hx])]
    · rw [if_neg hx, if_neg fun e => hx (code_inj (by rw [win_len, hb]) (win_mem h0 h n m) hd e)]
/-- The number of a list's places that hold v. -/
def cntL (v : Nat) : List Nat → Nat
  | [] => 0
  | x :: r => bif Nat.beq x v then cntL v r + 1 else cntL v r
def codes (k n : Nat) (L : List Nat) : List Nat := (List.range L.length).map fun i => code k (win L n i)
theorem cntL_app (v : Nat) : ∀ (a b : List Nat), cntL v (a ++ b) = cntL v a + cntL v b
  | [], b => by simp [cntL]
  | x :: a, b => by
    rw [List.cons_append, cntL, cntL, cntL_app v a b]
    cases Nat.beq x v
    · rfl
    · simp only [cond_true]; omega
theorem cc_cnt (c : Nat → Nat) (v : Nat) : ∀ m, cc c v m = cntL v ((List.range m).map c)
  | 0 => rfl
  | m + 1 => by
    rw [cc, cc_cnt c v m, List.range_succ, List.map_append, cntL_app]
    congr 1
    show _ = bif Nat.beq (c m) v then cntL v [] + 1 else cntL v []
    by_cases hx : c m = v
    · rw [if_pos hx, hx, Nat.beq_refl]; rfl
    · rw [if_neg hx, show Nat.beq (c m) v = false from by
        cases hb : Nat.beq (c m) v with
        | false => rfl
        | true => exact absurd (Nat.eq_of_beq_eq_true hb) hx]
      rfl
theorem cntL_le (v : Nat) : ∀ l : List Nat, cntL v l ≤ l.length
  | [] => Nat.le_refl _
  | x :: r => by
    rw [cntL, List.length_cons]
    have := cntL_le v r
    cases Nat.beq x v
    · simp only [cond_false]; omega
    · simp only [cond_true]; omega
def pw (x : Nat) : Nat := 1024 ^ x
theorem pw_pos (x : Nat) : 0 < pw x := Nat.pow_pos (by omega)
theorem pw_le {x v : Nat} (h : x < v) : pw x * 1024 ≤ pw v := by
  have h3 : 1024 ^ (x + 1) ≤ 1024 ^ v := Nat.pow_le_pow_right (by omega) h
  rw [Nat.pow_succ] at h3
  exact h3
theorem pw_split {x v : Nat} (h : v < x) : pw x = pw v * (1024 * pw (x - v - 1)) := by
  unfold pw
  rw [← Nat.mul_assoc, ← Nat.pow_succ, ← Nat.pow_add]
  congr 1
  omega
/-- All counts in one number. -/
def hist : List Nat → Nat
  | [] => 0
  | x :: r => pw x + hist r
theorem hist_split (v : Nat) : ∀ l : List Nat, ∃ lo up, hist l = lo + pw v * (cntL v l + 1024 * up) ∧ lo * 1024 ≤ l.length * pw v
  | [] => ⟨0, 0, by simp [hist, cntL], by simp⟩
  | x :: r => by
    obtain ⟨lo, up, h1, h2⟩ := hist_split v r
    rw [hist, cntL, h1, List.length_cons, Nat.add_mul, Nat.one_mul]
    rcases Nat.lt_trichotomy x v with hx | hx | hx
    · have hb : Nat.beq x v = false := by
        cases hb : Nat.beq x v with
        | false => rfl
        | true => have := Nat.eq_of_beq_eq_true hb; omega
      have h3 := pw_le hx
      rw [hb]
      exact ⟨pw x + lo, up, by simp only [cond_false]; omega, Nat.le_trans (Nat.le_of_eq (Nat.add_mul (pw x) lo 1024)) (Nat.le_trans (Nat.add_le_add h3 h2) (Nat.le_of_eq (Nat.add_comm _ _)))⟩
    · subst hx
      rw [Nat.beq_refl]
      simp only [cond_true]
      refine ⟨lo, up, ?_, by omega⟩
      rw [show cntL x r + 1 + 1024 * up = (cntL x r + 1024 * up) + 1 by omega, Nat.mul_add (pw x) _ 1]
      omega
    · have hb : Nat.beq x v = false := by
        cases hb : Nat.beq x v with
        | false => rfl
        | true => have := Nat.eq_of_beq_eq_true hb; omega
      rw [hb, pw_split hx]
      simp only [cond_false]
      generalize pw (x - v - 1) = y
      refine ⟨lo, up + y, ?_, by omega⟩
      rw [show cntL v r + 1024 * (up + y) = (cntL v r + 1024 * up) + 1024 * y by rw [Nat.mul_add]; omega, Nat.mul_add (pw v) _ (1024 * y)]
      omega
theorem hist_cnt {l : List Nat} (h : l.length < 1024) (v : Nat) : hist l / pw v % 1024 = cntL v l := by
  obtain ⟨lo, up, h1, h2⟩ := hist_split v l
  have hp := pw_pos v
  have hlo : lo < pw v := by
    have h3 : (l.length + 1) * pw v ≤ 1024 * pw v := Nat.mul_le_mul_right _ h
    rw [Nat.add_mul] at h3
    omega
  have hc := cntL_le v l
  rw [h1, Nat.add_mul_div_left _ _ hp, Nat.div_eq_of_lt hlo, Nat.zero_add, Nat.add_mul_mod_self_left]
  exact Nat.mod_eq_of_lt (by omega)
theorem hist_same {a b : List Nat} (ha : a.length < 1024) (hb : b.length < 1024) (h : hist a = hist b) (v : Nat) : cntL v a = cntL v b := by rw [← hist_cnt ha, ← hist_cnt hb, h]
theorem range_cnt {v : Nat} : ∀ {N : Nat}, v < N → cntL v (List.range N) = 1
  | 0, h => by omega
  | N + 1, h => by
    have h0 : ∀ {M : Nat}, M ≤ v → cntL v (List.range M) = 0 := by
      intro M
      induction M with
      | zero => intro _; rfl
      | succ M ih =>
        intro hM
        rw [List.range_succ, cntL_app, ih (by omega)]
        show 0 + (bif Nat.beq M v then cntL v [] + 1 else cntL v []) = 0
        rw [show Nat.beq M v = false from by
          cases hb : Nat.beq M v with
          | false => rfl
          | true => have := Nat.eq_of_beq_eq_true hb; omega]
        rfl
    rw [List.range_succ, cntL_app]
    show _ + (bif Nat.beq N v then cntL v [] + 1 else cntL v []) = 1
    by_cases hx : v = N
    · subst hx
      rw [h0 (Nat.le_refl _), Nat.beq_refl]
      rfl
    · rw [range_cnt (by omega), show Nat.beq N v = false from by
        cases hb : Nat.beq N v with
        | false => rfl
        | true => have := Nat.eq_of_beq_eq_true hb; omega]
      rfl
/-- The codes of the words at the first m places, by going along. -/
def slide (k n : Nat) : Nat → List Nat → List Nat
  | 0, _ => []
  | m + 1, E => code k (E.take n) :: slide k n m E.tail
theorem slide_is (k n : Nat) : ∀ (m : Nat) (E : List Nat), slide k n m E = (List.range m).map fun i => code k ((E.drop i).take n)
  | 0, _ => rfl
  | m + 1, E => by
    rw [slide, slide_is k n m, List.range_succ_eq_map, List.map_cons, List.map_map]
    congr 1
    refine List.map_congr_left fun i _ => ?_
    show _ = code k ((E.drop (i + 1)).take n)
    rw [← List.drop_one, List.drop_drop, Nat.add_comm]
theorem win_drop {L : List Nat} {n i : Nat} (hi : i < L.length) (hn : n ≤ L.length) : ((L ++ L).drop i).take n = win L n i := by
  refine List.ext_getElem (by rw [win_len, List.length_take, List.length_drop, List.length_append]; omega) fun j h1 h2 => ?_
  rw [win_len] at h2
  have hlt := Nat.mod_lt (i + j) (show 0 < L.length by omega)
  rw [List.getElem_take, List.getElem_drop, win_get, getD_lt hlt]
  by_cases hx : i + j < L.length
  · rw [List.getElem_append_left hx]
    simp only [Nat.mod_eq_of_lt hx]
  · rw [List.getElem_append_right (by omega)]
    have e : (i + j) % L.length = i + j - L.length := by
      rw [Nat.mod_eq_sub_mod (by omega), Nat.mod_eq_of_lt (by omega)]
    simp only [e]
def chk (k n : Nat) (L : List Nat) : Bool := Nat.beq L.length (k ^ n) && L.all (fun x => Nat.blt x k) && Nat.ble n L.length && Nat.beq (hist (slide k n L.length (L ++ L))) (hist (List.range (k ^ n)))
/-- The sequence has as many places as there are words, and each word begins at one. -/
structure Bruijn (k n : Nat) (L : List Nat) : Prop where
  len : L.length = k ^ n
  low : ∀ x, x ∈ L → x < k
  one : ∀ b : List Nat, b.length = n → (∀ x, x ∈ b → x < k) → hc L n b L.length = 1
theorem chk_is {k n : Nat} {L : List Nat} (h1 : 1 ≤ k) (hN : k ^ n < 1024) (h : chk k n L = true) : Bruijn k n L := by
  unfold chk at h
  rw [Bool.and_eq_true, Bool.and_eq_true, Bool.and_eq_true] at h
  obtain ⟨⟨⟨c1, c2⟩, c3⟩, c4⟩ := h
  have e1 := Nat.eq_of_beq_eq_true c1
  have e3 := Nat.le_of_ble_eq_true c3
  have e4 := Nat.eq_of_beq_eq_true c4
  have e2 : ∀ x, x ∈ L → x < k := fun x hx => Nat.le_of_ble_eq_true (List.all_eq_true.1 c2 x hx)
  have hp : 0 < k ^ n := Nat.pow_pos (by omega)
  refine ⟨e1, e2, fun b hb hd => ?_⟩
  rw [hc_cc (by omega) e2 hb hd, cc_cnt]
  have e5 : slide k n L.length (L ++ L) = (List.range L.length).map fun i => code k (win L n i) := by
    rw [slide_is]
    refine List.map_congr_left fun i hi => ?_
    rw [win_drop (List.mem_range.1 hi) e3]
  rw [← e5, hist_same (b := List.range (k ^ n)) (by rw [e5]; simp; omega) (by simp; omega) e4]
  refine range_cnt ?_
  have := code_lt hd
  rw [hb] at this
  exact this
theorem bruijn_one (n : Nat) : Bruijn 1 n (lineD 1 n) := by
  rw [line_one]
  refine ⟨by simp, by simp, fun b hb hd => ?_⟩
  have e : win [0] n 0 = b := by
    refine List.ext_getElem (by rw [win_len, hb]) fun i h1 h2 => ?_
    have := hd _ (List.getElem_mem h2)
    rw [win_get]
    simp [Nat.mod_one]
    omega
  show hc [0] n b 0 + (if win [0] n 0 = b then 1 else 0) = 1
  rw [if_pos e]
  rfl
theorem chk_few : ∀ k, k < 9 → 2 ≤ k → ∀ n, n < 10 → 1 ≤ n → k ^ n ≤ 512 → chk k n (lineD k n) = true := by decide +kernel
theorem bruijn {k n : Nat} (h : Ok k n) : Bruijn k n (lineD k n) := by
  have h1 := h.k1
  have h8 := h.k8
  have hf := h.few
  rcases h.short with rfl | h9
  · exact bruijn_one n
  · by_cases hk : k = 1
    · subst hk; exact bruijn_one n
    · exact chk_is h1 (by omega) (chk_few k (by omega) (by omega) n (by omega) h.n1 hf)
end Rm
end Go.Proofs.Ytapjodbaaejldaa
