/-
Plain mathematics on codes: which error a list of words has, which a list of lengths has. No program is named here.
-/
import Derived.Test.YtmgkoliindicgaaCanMath
namespace Go.Proofs.Ytmgkoliindicgaa
namespace Cm

def isBit (b : UInt8) : Bool := b == 48 || b == 49
theorem isBit_iff {b : UInt8} : isBit b = true ↔ Bit b := by unfold isBit Bit; simp
theorem all_bits {w : Wd} : w.all isBit = true ↔ Bits w := by
  rw [List.all_eq_true]
  exact ⟨fun h b hb => isBit_iff.1 (h b hb), fun h b hb => isBit_iff.2 (h b hb)⟩
/-- The error of one word behind those of 'seen'. -/
def wE (seen : List Wd) (w : Wd) : Int := if w = [] then 5 else if 12 < w.length then 2 else if w.all isBit = false then 3 else if w ∈ seen then 10 else 0
def cE : List Wd → List Wd → Int
  | _, [] => 0
  | seen, w :: r => if wE seen w ≠ 0 then wE seen w else cE (seen ++ [w]) r
/-- The error of a code. -/
def cErr (W : List Wd) : Int := if 12 < W.length then 2 else cE [] W
theorem wE_zero {seen : List Wd} {w : Wd} : wE seen w = 0 ↔ w ≠ [] ∧ w.length ≤ 12 ∧ Bits w ∧ w ∉ seen := by
  unfold wE
  by_cases h1 : w = []
  · rw [if_pos h1]; constructor
    · intro h; cases h
    · rintro ⟨h, _⟩; exact absurd h1 h
  · rw [if_neg h1]
    by_cases h2 : 12 < w.length
    · rw [if_pos h2]; constructor
      · intro h; cases h
      · rintro ⟨_, h, _⟩; omega
    · rw [if_neg h2]
      by_cases h3 : w.all isBit = false
      · rw [if_pos h3]; constructor
        · intro h; cases h
        · rintro ⟨_, _, h, _⟩; rw [all_bits.2 h] at h3; cases h3
      · rw [if_neg h3]
        have h3' : Bits w := all_bits.1 (by simpa using h3)
        by_cases h4 : w ∈ seen
        · rw [if_pos h4]; constructor
          · intro h; cases h
          · rintro ⟨_, _, _, h⟩; exact absurd h4 h
        · rw [if_neg h4]; exact ⟨fun _ => ⟨h1, by omega, h3', h4⟩, fun _ => rfl⟩
/-- What a good code is. -/
structure Good (W : List Wd) : Prop where
  few : W.length ≤ 12
  nodup : W.Nodup
  some_ : ∀ w ∈ W, w ≠ []
  short : ∀ w ∈ W, w.length ≤ 12
  bits : ∀ w ∈ W, Bits w
theorem cE_zero : ∀ {r seen : List Wd}, cE seen r = 0 ↔ (∀ w ∈ r, w ≠ [] ∧ w.length ≤ 12 ∧ Bits w ∧ w ∉ seen) ∧ r.Nodup
  | [], seen => by simp [cE]
  | w :: r, seen => by
    unfold cE
    by_cases h : wE seen w = 0
    · rw [if_neg (by simpa using h), cE_zero (r := r), List.nodup_cons]
      obtain ⟨h1, h2, h3, h4⟩ := wE_zero.1 h
      constructor
      · rintro ⟨h5, h6⟩
        refine ⟨fun v hv => ?_, fun hw => ?_, h6⟩
        · rcases List.mem_cons.1 hv with rfl | hv
          · exact ⟨h1, h2, h3, h4⟩
          · obtain ⟨g1, g2, g3, g4⟩ := h5 v hv
            exact ⟨g1, g2, g3, fun hs => g4 (List.mem_append_left _ hs)⟩
        · exact (h5 w hw).2.2.2 (List.mem_append_right _ (List.mem_singleton.2 rfl))
      · rintro ⟨h5, h6, h7⟩
        refine ⟨fun v hv => ?_, h7⟩
        obtain ⟨g1, g2, g3, g4⟩ := h5 v (List.mem_cons_of_mem _ hv)
        refine ⟨g1, g2, g3, fun hs => ?_⟩
        rcases List.mem_append.1 hs with hs | hs
        · exact g4 hs
        · rw [List.mem_singleton.1 hs] at hv; exact h6 hv
    · rw [if_pos (by simpa using h)]
      constructor
      · intro h1; exact absurd h1 h
      · rintro ⟨h1, _⟩
        exact absurd (wE_zero.2 (h1 w List.mem_cons_self)) h
theorem cErr_zero {W : List Wd} : cErr W = 0 ↔ Good W := by
  unfold cErr
  by_cases h : 12 < W.length
  · rw [if_pos h]
    constructor
    · intro h; cases h
    · intro g; have := g.few; omega
  · rw [if_neg h, cE_zero]
    constructor
    · rintro ⟨h1, h2⟩
      exact ⟨by omega, h2, fun w hw => (h1 w hw).1, fun w hw => (h1 w hw).2.1, fun w hw => (h1 w hw).2.2.1⟩
    · intro g
      exact ⟨fun w hw => ⟨g.some_ w hw, g.short w hw, g.bits w hw, by simp⟩, g.nodup⟩
/-- The search for the error, at place i. -/
theorem cE_at {W : List Wd} {i : Nat} (h : i < W.length) : cE (W.take i) (W.drop i) = if wE (W.take i) (W.getD i []) ≠ 0 then wE (W.take i) (W.getD i []) else cE (W.take (i + 1)) (W.drop (i + 1)) := by
  have e : W.drop i = W.getD i [] :: W.drop (i + 1) := by rw [List.drop_eq_getElem_cons h, List.getD_eq_getElem?_getD, List.getElem?_eq_getElem h]; rfl
  have e2 : W.take (i + 1) = W.take i ++ [W.getD i []] := by rw [List.take_add_one, List.getElem?_eq_getElem h, List.getD_eq_getElem?_getD, List.getElem?_eq_getElem h]; rfl
  rw [e, e2]
  rfl
theorem cE_end (W : List Wd) : cE (W.take W.length) (W.drop W.length) = 0 := by rw [List.drop_length]; unfold cE; rfl
theorem cErr_small {W : List Wd} (h : W.length ≤ 12) : cErr W = cE (W.take 0) (W.drop 0) := by unfold cErr; rw [if_neg (by omega)]; rfl
/-- The error of lengths. -/
def lnE (g : Nat → Int) : Nat → Int
  | 0 => 0
  | n + 1 => if lnE g n ≠ 0 then lnE g n else if g n < 1 ∨ 12 < g n then 1 else 0
def lErr (g : Nat → Int) (n : Nat) : Int := if 12 < n then 2 else lnE g n
/-- The lengths as numbers. -/
def ln (g : Nat → Int) (j : Nat) : Nat := (g j).toNat
theorem lnE_zero {g : Nat → Int} : ∀ {n : Nat}, lnE g n = 0 ↔ ∀ j, j < n → 1 ≤ g j ∧ g j ≤ 12
  | 0 => ⟨fun _ j hj => by omega, fun _ => rfl⟩
  | n + 1 => by
    unfold lnE
    by_cases h : lnE g n = 0
    · rw [if_neg (by simpa using h)]
      have h' := lnE_zero.1 h
      by_cases h2 : g n < 1 ∨ 12 < g n
      · rw [if_pos h2]
        constructor
        · intro h; cases h
        · intro h; have := h n (by omega); omega
      · rw [if_neg h2]
        refine ⟨fun _ j hj => ?_, fun _ => rfl⟩
        by_cases e : j = n
        · subst e; omega
        · exact h' j (by omega)
    · rw [if_pos (by simpa using h)]
      constructor
      · intro h1; exact absurd h1 h
      · intro h1; exact absurd (lnE_zero.2 fun j hj => h1 j (by omega)) h
theorem lnE_one {g : Nat → Int} : ∀ {n j : Nat}, j < n → (g j < 1 ∨ 12 < g j) → lnE g n = 1
  | 0, j, h, _ => by omega
  | n + 1, j, h, hb => by
    unfold lnE
    by_cases e : lnE g n = 0
    · rw [if_neg (by simpa using e)]
      have : j = n := by
        rcases Nat.lt_or_ge j n with h1 | h1
        · have := lnE_zero.1 e j h1; omega
        · omega
      subst this
      rw [if_pos hb]
    · rw [if_pos (by simpa using e)]
      rcases Nat.lt_or_ge j n with h1 | h1
      · exact lnE_one h1 hb
      · obtain rfl : j = n := by omega
        by_cases hx : ∃ k, k < j ∧ (g k < 1 ∨ 12 < g k)
        · obtain ⟨k, h2, h3⟩ := hx
          exact lnE_one h2 h3
        · exact absurd (lnE_zero.2 fun k hk => by
            by_cases h4 : g k < 1 ∨ 12 < g k
            · exact absurd ⟨k, hk, h4⟩ hx
            · omega) e
theorem shift12 {x : Int} (h1 : 1 ≤ x) (h2 : x ≤ 12) : 4096 / 2 ^ x.toNat = 2 ^ (12 - x.toNat) := by
  obtain ⟨n, rfl⟩ := Int.eq_ofNat_of_zero_le (show 0 ≤ x by omega)
  rw [Int.toNat_natCast]
  have h3 : n ≤ 12 := by omega
  have : ∀ n, n ≤ 12 → 4096 / 2 ^ n = 2 ^ (12 - n) := by decide
  exact this n h3
theorem tot_le (l : Nat → Nat) : ∀ n, tot l n ≤ n * 4096
  | 0 => Nat.zero_le _
  | n + 1 => by
    show tot l n + 2 ^ (12 - l n) ≤ _
    have h1 := tot_le l n
    have h2 : 2 ^ (12 - l n) ≤ 2 ^ 12 := Nat.pow_le_pow_right (by omega) (by omega)
    rw [Nat.succ_mul]
    omega
/-- The sum of the words of a code is that of their lengths. -/
theorem ws_tot (W : List Wd) : ws 12 W = tot (fun j => (W.getD j []).length) W.length := by
  have key : ∀ k, k ≤ W.length → ws 12 (W.take k) = tot (fun j => (W.getD j []).length) k := by
    intro k
    induction k with
    | zero => intro _; rfl
    | succ k ih =>
      intro hk
      have e2 : W.take (k + 1) = W.take k ++ [W.getD k []] := by rw [List.take_add_one, List.getElem?_eq_getElem (by omega), List.getD_eq_getElem?_getD, List.getElem?_eq_getElem (by omega)]; rfl
      rw [e2, ws_append, ih (by omega)]
      show _ + ws 12 [W.getD k []] = tot (fun j => (W.getD j []).length) k + _
      simp [ws]
  have := key W.length (Nat.le_refl _)
  rwa [List.take_length] at this
end Cm
end Go.Proofs.Ytmgkoliindicgaa
