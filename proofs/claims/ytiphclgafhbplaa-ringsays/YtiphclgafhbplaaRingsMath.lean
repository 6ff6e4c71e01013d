/-
Which words are their own least turn, which are Lyndon words: by reckoning with lists of letters; how many there are.
-/
import Derived.Test.YtiphclgafhbplaaRefLyn
import Derived.Test.YtiphclgafhbplaaAllWords
namespace Go.Proofs.Ytiphclgafhbplaa
namespace Rm
def turnD (d : List Nat) (i : Nat) : List Nat := d.drop i ++ d.take i
def ltD : List Nat → List Nat → Bool
  | [], [] => false
  | [], _ :: _ => true
  | _ :: _, [] => false
  | x :: a, y :: b => Nat.blt x y || (Nat.beq x y && ltD a b)
/-- No turn of d is less. -/
def neckD (d : List Nat) : Bool := (List.range d.length).all fun i => !ltD (turnD d i) d
/-- All other turns of d are greater. -/
def lynD (d : List Nat) : Bool := Nat.blt 0 d.length && (List.range d.length).all fun i => Nat.beq i 0 || ltD d (turnD d i)
def cntB (p : List Nat → Bool) : List (List Nat) → Nat
  | [] => 0
  | d :: r => (bif p d then 1 else 0) + cntB p r
theorem cntB_app (p : List Nat → Bool) : ∀ a b : List (List Nat), cntB p (a ++ b) = cntB p a + cntB p b
  | [], b => by simp [cntB]
  | d :: a, b => by rw [List.cons_append, cntB, cntB, cntB_app p a b]; omega
theorem cntB_take (p : List Nat → Bool) {l : List (List Nat)} {j : Nat} (h : j < l.length) : cntB p (l.take (j + 1)) = cntB p (l.take j) + (bif p (l.getD j []) then 1 else 0) := by
  rw [List.take_add_one, List.getElem?_eq_getElem h, getD_lt h, cntB_app]
  simp [cntB]
theorem cntB_le (p : List Nat → Bool) : ∀ l : List (List Nat), cntB p l ≤ l.length
  | [] => Nat.le_refl _
  | d :: r => by
    rw [cntB, List.length_cons]
    have := cntB_le p r
    cases p d
    · simp only [cond_false]; omega
    · simp only [cond_true]; omega
def ringsB (k n : Nat) : Bool := decide (Int.ofNat (cntB neckD (allW k n)) = rg k n (n + 1)) && decide (Int.ofNat (cntB lynD (allW k n)) = lw k n)
theorem rings_few : ∀ k, k < 9 → 2 ≤ k → ∀ n, n < 10 → 1 ≤ n → k ^ n ≤ 512 → ringsB k n = true := by decide +kernel
theorem allW_one : ∀ n, allW 1 n = [List.replicate n 0]
  | 0 => rfl
  | n + 1 => by
    rw [allW, allW_one n]
    show ext 1 (List.replicate n 0) ++ [] = _
    rw [List.append_nil, List.replicate_succ']
    rfl
theorem turn_zeros (n i : Nat) (h : i ≤ n) : turnD (List.replicate n 0) i = List.replicate n 0 := by
  unfold turnD
  rw [List.drop_replicate, List.take_replicate, List.replicate_append_replicate]
  congr 1
  omega
theorem ltD_irr : ∀ d : List Nat, ltD d d = false
  | [] => rfl
  | x :: d => by
    rw [ltD, ltD_irr d]
    have : Nat.blt x x = false := by
      cases hb : Nat.blt x x with
      | false => rfl
      | true => have := Nat.le_of_ble_eq_true hb; omega
    rw [this]
    simp
theorem neck_zeros (n : Nat) : neckD (List.replicate n 0) = true := by
  unfold neckD
  rw [List.all_eq_true]
  intro i hi
  rw [List.mem_range, List.length_replicate] at hi
  rw [turn_zeros n i (by omega), ltD_irr]
  rfl
theorem lyn_zeros (n : Nat) : lynD (List.replicate n 0) = decide (n = 1) := by
  match n with
  | 0 => rfl
  | 1 => rfl
  | n + 2 =>
    unfold lynD
    rw [show decide (n + 2 = 1) = false from by simp]
    rw [show ((List.range (List.replicate (n + 2) 0).length).all fun i => Nat.beq i 0 || ltD (List.replicate (n + 2) 0) (turnD (List.replicate (n + 2) 0) i)) = false from ?_, Bool.and_false]
    rw [List.all_eq_false]
    refine ⟨1, by rw [List.mem_range, List.length_replicate]; omega, ?_⟩
    rw [turn_zeros _ _ (by omega), ltD_irr]
    decide
theorem lw_one (m : Nat) : lw 1 m = if m = 1 then 1 else 0 := by
  unfold lw
  rw [pc_one]
  by_cases h : m = 1
  · subst h; rfl
  · rw [if_neg h]; simp
theorem rg_ones : ∀ {n m : Nat}, 2 ≤ m → rg 1 n m = 1
  | n, 0, h => by omega
  | n, 1, h => by omega
  | n, 2, _ => by rw [rg_step, Nat.mod_one, if_pos rfl, rg_one, lw_one]; rfl
  | n, m + 3, _ => by
    rw [rg_step, rg_ones (show 2 ≤ m + 2 by omega), lw_one, if_neg (show ¬ (m + 2 = 1) by omega)]
    split <;> rfl
theorem rings_all {k n : Nat} (h : Ok k n) : ((cntB neckD (allW k n) : Nat) : Int) = rg k n (n + 1) ∧ ((cntB lynD (allW k n) : Nat) : Int) = lw k n := by
  have h1 := h.k1
  have h8 := h.k8
  have hn := h.n1
  have hone : ((cntB neckD (allW 1 n) : Nat) : Int) = rg 1 n (n + 1) ∧ ((cntB lynD (allW 1 n) : Nat) : Int) = lw 1 n := by
    rw [allW_one, rg_ones (by omega), lw_one, cntB, cntB, cntB, cntB, neck_zeros, lyn_zeros]
    refine ⟨rfl, ?_⟩
    by_cases hx : n = 1
    · subst hx; rfl
    · rw [if_neg hx, decide_eq_false hx]; rfl
  by_cases hk : k = 1
  · subst hk; exact hone
  · rcases h.short with rfl | h9
    · exact hone
    · have := rings_few k (by omega) (by omega) n (by omega) hn h.few
      unfold ringsB at this
      rw [Bool.and_eq_true] at this
      exact ⟨of_decide_eq_true this.1, of_decide_eq_true this.2⟩
end Rm
theorem turn_sd (d : List Nat) (i : Nat) : turnS (sd d) i = sd (Rm.turnD d i) := by
  refine wd_inj ?_
  unfold turnS Rm.turnD
  rw [wd_app, wd_drop, wd_take, sd_app, wd_sd, wd_sd, wd_sd, List.map_drop, List.map_take]
theorem lt_sd : ∀ {a b : List Nat}, (∀ x, x ∈ a → x < 100) → (∀ x, x ∈ b → x < 100) → (wd (sd a) < wd (sd b) ↔ Rm.ltD a b = true)
  | [], [], _, _ => by rw [wd_sd]; simp [Rm.ltD]
  | [], y :: b, _, _ => by rw [wd_sd, wd_sd]; simp [Rm.ltD]
  | x :: a, [], _, _ => by rw [wd_sd, wd_sd]; simp [Rm.ltD]
  | x :: a, y :: b, ha, hb => by
    have ih := lt_sd (a := a) (b := b) (fun z hz => ha z (List.mem_cons_of_mem _ hz)) (fun z hz => hb z (List.mem_cons_of_mem _ hz))
    have hx := ha x List.mem_cons_self
    have hy := hb y List.mem_cons_self
    rw [wd_sd, wd_sd] at ih
    rw [wd_sd, wd_sd, List.map_cons, List.map_cons, List.cons_lt_cons_iff, ih, Rm.ltD, Bool.or_eq_true, Bool.and_eq_true]
    have e1 : (UInt8.ofNat (97 + x)).toNat = 97 + x := UInt8.toNat_ofNat_of_lt' (by show _ < 256; omega)
    have e2 : (UInt8.ofNat (97 + y)).toNat = 97 + y := UInt8.toNat_ofNat_of_lt' (by show _ < 256; omega)
    have f1 : UInt8.ofNat (97 + x) < UInt8.ofNat (97 + y) ↔ Nat.blt x y = true := by
      rw [UInt8.lt_iff_toNat_lt, e1, e2]
      constructor
      · intro h; exact Nat.ble_eq_true_of_le (show x + 1 ≤ y by omega)
      · intro h; have := Nat.le_of_ble_eq_true h; omega
    have f2 : UInt8.ofNat (97 + x) = UInt8.ofNat (97 + y) ↔ Nat.beq x y = true := by
      rw [← UInt8.toNat_inj, e1, e2]
      constructor
      · intro h
        have : x = y := by omega
        subst this
        exact Nat.beq_refl x
      · intro h; have := Nat.eq_of_beq_eq_true h; omega
    rw [f1, f2]
theorem turn_low {d : List Nat} {i : Nat} {m : Nat} (hd : ∀ x, x ∈ d → x < m) : ∀ x, x ∈ Rm.turnD d i → x < m := by
  intro x hx
  unfold Rm.turnD at hx
  rcases List.mem_append.1 hx with hx | hx
  · exact hd x (List.mem_of_mem_drop hx)
  · exact hd x (List.mem_of_mem_take hx)
theorem lyn_sd {d : List Nat} (hd : ∀ x, x ∈ d → x < 100) (h0 : 0 < d.length) : LynS (sd d) ↔ Rm.lynD d = true := by
  rw [lyn_turnS (by rw [sd_size]; exact h0), Rm.lynD, Bool.and_eq_true, List.all_eq_true]
  constructor
  · intro h
    refine ⟨Nat.ble_eq_true_of_le (show 0 + 1 ≤ d.length by omega), fun i hi => ?_⟩
    rw [List.mem_range] at hi
    rw [Bool.or_eq_true]
    by_cases hi0 : i = 0
    · subst hi0; exact .inl rfl
    · right
      have := h i (by omega) (by rw [sd_size]; exact hi)
      rw [turn_sd] at this
      exact (lt_sd hd (turn_low hd)).1 this
  · rintro ⟨_, h⟩ i h1 h2
    rw [sd_size] at h2
    have := h i (List.mem_range.2 h2)
    rw [Bool.or_eq_true] at this
    rcases this with hc | hc
    · have := Nat.eq_of_beq_eq_true hc; omega
    · rw [turn_sd]
      exact (lt_sd hd (turn_low hd)).2 hc
theorem least_some (s : ByteArray) : ∀ m, 0 < m → m ≤ s.size → ∃ i, i < m ∧ (∀ j, j < i → wd (turnS s i) < wd (turnS s j)) ∧ (∀ j, j < m → ¬ wd (turnS s j) < wd (turnS s i))
  | 0, h, _ => by omega
  | 1, _, _ => ⟨0, by omega, fun j hj => by omega, fun j hj => by
      obtain rfl : j = 0 := by omega
      exact Lm.irr _⟩
  | m + 2, _, h => by
    obtain ⟨i, h1, h2, h3⟩ := least_some s (m + 1) (by omega) (by omega)
    by_cases hx : wd (turnS s (m + 1)) < wd (turnS s i)
    · refine ⟨m + 1, by omega, fun j hj => ?_, fun j hj => ?_⟩
      · exact Std.lt_of_lt_of_le hx (h3 j hj)
      · by_cases hj2 : j < m + 1
        · intro hc
          exact h3 j hj2 (Lm.lt_tr hc hx)
        · obtain rfl : j = m + 1 := by omega
          exact Lm.irr _
    · refine ⟨i, by omega, h2, fun j hj => ?_⟩
      by_cases hj2 : j < m + 1
      · exact h3 j hj2
      · obtain rfl : j = m + 1 := by omega
        exact hx
theorem least_is {s : ByteArray} (h0 : 0 < s.size) : ∃ i, i < s.size ∧ LeastAt s i := by
  obtain ⟨i, h1, h2, h3⟩ := least_some s s.size h0 (Nat.le_refl _)
  exact ⟨i, h1, fun j hj => (turn_lt (by omega) (by omega)).1 (h2 j hj), fun j hj hc => h3 j hj ((turn_lt (by omega) (by omega)).2 hc)⟩
theorem neck_sd {d : List Nat} {i : Nat} (hd : ∀ x, x ∈ d → x < 100) (hi : i < d.length) (h : LeastAt (sd d) i) : turnS (sd d) i = sd d ↔ Rm.neckD d = true := by
  have hs := sd_size d
  have hl : ∀ j, j < d.length → ¬ wd (turnS (sd d) j) < wd (turnS (sd d) i) := fun j hj hc => h.least j (by omega) ((turn_lt (by omega) (by omega)).1 hc)
  rw [Rm.neckD, List.all_eq_true]
  constructor
  · intro e j hj
    rw [List.mem_range] at hj
    have := hl j hj
    rw [e, turn_sd, lt_sd (turn_low hd) hd] at this
    simpa using this
  · intro h1
    have h2 := h1 i (List.mem_range.2 hi)
    have h3 : ¬ wd (turnS (sd d) i) < wd (sd d) := by
      rw [turn_sd, lt_sd (turn_low hd) hd]
      simpa using h2
    have h4 := hl 0 (by omega)
    rw [turnS_zero] at h4
    exact wd_inj (List.le_antisymm h4 h3)
end Go.Proofs.Ytiphclgafhbplaa
