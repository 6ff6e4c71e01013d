
/-
Operations of one byte (put, take, none): what a check of one answers; one past another; two of them come to the same (Ellis, Gibbs); two rows of them come to the same (Ressel); a row past a row, row by row and column by column. No program is named here.
-/
import Derived.Test.YtgkagigagcamoaaLst
namespace Go.Proofs.Ytgkagigagcamoaa.Sh

/-- An operation. -/
structure Op where
  k : Int
  a : Int
  b : UInt8
theorem Op.eq {x y : Op} (h1 : x.k = y.k) (h2 : x.a = y.a) (h3 : x.b = y.b) : x = y := by cases x; cases y; simp_all
def zero : Op := ⟨0, 0, 0⟩
def none_ : Op := ⟨3, 0, 0⟩
/-- What is wrong with it. -/
def opErr (n : Int) (x : Op) : Int :=
  if n < 0 ∨ 200 < n then 1
  else if x.k = 1 then (if x.a < 0 ∨ n < x.a then 1 else if n = 200 then 11 else 0)
  else if x.k = 2 then (if x.a < 0 ∨ n - 1 < x.a then 1 else if x.b = 0 then 0 else 3)
  else if x.k = 3 then (if x.a < 0 ∨ 0 < x.a then 1 else if x.b = 0 then 0 else 3)
  else 3
/-- Its place is one. -/
def Ok (n : Int) (x : Op) : Prop := 0 ≤ n ∧ ((x.k = 1 ∧ 0 ≤ x.a ∧ x.a ≤ n) ∨ (x.k = 2 ∧ 0 ≤ x.a ∧ x.a < n ∧ x.b = 0) ∨ (x.k = 3 ∧ x.a = 0 ∧ x.b = 0))
theorem err_zero {n : Int} {x : Op} : opErr n x = 0 ↔ Ok n x ∧ n ≤ 200 ∧ (x.k = 1 → n < 200) := by
  unfold opErr Ok
  by_cases h0 : n < 0 ∨ 200 < n
  · rw [if_pos h0]
    exact ⟨fun h => absurd h (by decide), fun h => by omega⟩
  · rw [if_neg h0]
    by_cases h1 : x.k = 1
    · rw [if_pos h1]
      by_cases h2 : x.a < 0 ∨ n < x.a
      · rw [if_pos h2]; exact ⟨fun h => absurd h (by decide), fun h => by omega⟩
      · rw [if_neg h2]
        by_cases h3 : n = 200
        · rw [if_pos h3]; exact ⟨fun h => absurd h (by decide), fun h => by have := h.2.2 h1; omega⟩
        · rw [if_neg h3]; exact ⟨fun _ => ⟨⟨by omega, .inl ⟨h1, by omega, by omega⟩⟩, by omega, fun _ => by omega⟩, fun _ => rfl⟩
    · rw [if_neg h1]
      by_cases h2 : x.k = 2
      · rw [if_pos h2]
        by_cases h3 : x.a < 0 ∨ n - 1 < x.a
        · rw [if_pos h3]; exact ⟨fun h => absurd h (by decide), fun h => by omega⟩
        · rw [if_neg h3]
          by_cases h4 : x.b = 0
          · rw [if_pos h4]; exact ⟨fun _ => ⟨⟨by omega, .inr (.inl ⟨h2, by omega, by omega, h4⟩)⟩, by omega, fun h => absurd h h1⟩, fun _ => rfl⟩
          · rw [if_neg h4]
            refine ⟨fun h => absurd h (by decide), fun h => ?_⟩
            rcases h.1.2 with ⟨c, _⟩ | ⟨_, _, _, c⟩ | ⟨_, _, c⟩
            · exact absurd c h1
            · exact absurd c h4
            · exact absurd c h4
      · rw [if_neg h2]
        by_cases h3 : x.k = 3
        · rw [if_pos h3]
          by_cases h4 : x.a < 0 ∨ 0 < x.a
          · rw [if_pos h4]; exact ⟨fun h => absurd h (by decide), fun h => by omega⟩
          · rw [if_neg h4]
            by_cases h5 : x.b = 0
            · rw [if_pos h5]; exact ⟨fun _ => ⟨⟨by omega, .inr (.inr ⟨h3, by omega, h5⟩)⟩, by omega, fun h => absurd h h1⟩, fun _ => rfl⟩
            · rw [if_neg h5]
              refine ⟨fun h => absurd h (by decide), fun h => ?_⟩
              rcases h.1.2 with ⟨c, _⟩ | ⟨_, _, _, c⟩ | ⟨_, _, c⟩
              · exact absurd c h1
              · exact absurd c h5
              · exact absurd c h5
        · rw [if_neg h3]
          exact ⟨fun h => absurd h (by decide), fun h => by omega⟩
/-- By how much it makes a text longer. -/
def lon (x : Op) : Int := if x.k = 1 then 1 else if x.k = 2 then -1 else 0
theorem lon_le (x : Op) : -1 ≤ lon x ∧ lon x ≤ 1 := by unfold lon; split <;> (try split) <;> omega
def put (s : List UInt8) (a : Nat) (b : UInt8) : List UInt8 := s.take a ++ b :: s.drop a
def tak (s : List UInt8) (a : Nat) : List UInt8 := s.take a ++ s.drop (a + 1)
/-- The text after it. -/
def doL (s : List UInt8) (x : Op) : List UInt8 := if x.k = 1 then put s x.a.toNat x.b else if x.k = 2 then tak s x.a.toNat else s
theorem put_get {s : List UInt8} {a : Nat} (h : a ≤ s.length) (b : UInt8) (i : Nat) : (put s a b)[i]? = if i < a then s[i]? else if i = a then some b else s[i - 1]? := by
  unfold put
  have hl : (s.take a).length = a := by rw [List.length_take]; omega
  by_cases h1 : i < a
  · rw [if_pos h1, List.getElem?_append_left (by omega), List.getElem?_take, if_pos h1]
  · rw [if_neg h1, List.getElem?_append_right (by omega), hl]
    by_cases h2 : i = a
    · rw [if_pos h2, h2, Nat.sub_self]; rfl
    · rw [if_neg h2]
      obtain ⟨j, hj⟩ : ∃ j, i - a = j + 1 := ⟨i - a - 1, by omega⟩
      rw [hj, List.getElem?_cons_succ, List.getElem?_drop]
      congr 1; omega
theorem tak_get {s : List UInt8} {a : Nat} (h : a < s.length) (i : Nat) : (tak s a)[i]? = if i < a then s[i]? else s[i + 1]? := by
  unfold tak
  have hl : (s.take a).length = a := by rw [List.length_take]; omega
  by_cases h1 : i < a
  · rw [if_pos h1, List.getElem?_append_left (by omega), List.getElem?_take, if_pos h1]
  · rw [if_neg h1, List.getElem?_append_right (by omega), hl, List.getElem?_drop]
    congr 1; omega
theorem put_len {s : List UInt8} {a : Nat} (h : a ≤ s.length) (b : UInt8) : (put s a b).length = s.length + 1 := by
  unfold put
  rw [List.length_append, List.length_cons, List.length_take, List.length_drop]; omega
theorem tak_len {s : List UInt8} {a : Nat} (h : a < s.length) : (tak s a).length = s.length - 1 := by
  unfold tak
  rw [List.length_append, List.length_take, List.length_drop]; omega
theorem do_len {s : List UInt8} {x : Op} (h : Ok s.length x) : ((doL s x).length : Int) = (s.length : Int) + lon x := by
  unfold doL lon
  obtain ⟨_, ⟨h1, h2, h3⟩ | ⟨h1, h2, h3, _⟩ | ⟨h1, _, _⟩⟩ := h
  · rw [if_pos h1, if_pos h1, put_len (by omega)]; omega
  · rw [if_neg (by omega), if_pos h1, if_neg (by omega), if_pos h1, tak_len (by omega)]; omega
  · rw [if_neg (by omega), if_neg (by omega), if_neg (by omega), if_neg (by omega)]; omega
theorem put_put {s : List UInt8} {p q : Nat} (b c : UInt8) (h1 : p ≤ q) (h2 : q ≤ s.length) : put (put s q c) p b = put (put s p b) (q + 1) c := by
  have A1 := fun i => put_get (s := put s q c) (a := p) (by rw [put_len h2]; omega) b i
  have A2 := fun i => put_get (s := s) h2 c i
  have B1 := fun i => put_get (s := put s p b) (a := q + 1) (by rw [put_len (by omega)]; omega) c i
  have B2 := fun i => put_get (s := s) (a := p) (by omega) b i
  refine List.ext_getElem? fun i => ?_
  rw [A1, B1]
  simp only [A2, B2]
  repeat' split
  all_goals first | rfl | omega | (congr 1; omega)
theorem put_tak {s : List UInt8} {p q : Nat} (b : UInt8) (h1 : p ≤ q) (h2 : q < s.length) : put (tak s q) p b = tak (put s p b) (q + 1) := by
  have A1 := fun i => put_get (s := tak s q) (a := p) (by rw [tak_len h2]; omega) b i
  have A2 := fun i => tak_get (s := s) h2 i
  have B1 := fun i => tak_get (s := put s p b) (a := q + 1) (by rw [put_len (by omega)]; omega) i
  have B2 := fun i => put_get (s := s) (a := p) (by omega) b i
  refine List.ext_getElem? fun i => ?_
  rw [A1, B1]
  simp only [A2, B2]
  repeat' split
  all_goals first | rfl | omega | (congr 1; omega)
theorem tak_put {s : List UInt8} {p q : Nat} (b : UInt8) (h1 : q < p) (h2 : p ≤ s.length) : put (tak s q) (p - 1) b = tak (put s p b) q := by
  have A1 := fun i => put_get (s := tak s q) (a := p - 1) (by rw [tak_len (by omega)]; omega) b i
  have A2 := fun i => tak_get (s := s) (a := q) (by omega) i
  have B1 := fun i => tak_get (s := put s p b) (a := q) (by rw [put_len h2]; omega) i
  have B2 := fun i => put_get (s := s) h2 b i
  refine List.ext_getElem? fun i => ?_
  rw [A1, B1]
  simp only [A2, B2]
  repeat' split
  all_goals first | rfl | omega | (congr 1; omega)
theorem tak_tak {s : List UInt8} {p q : Nat} (h1 : p < q) (h2 : q < s.length) : tak (tak s q) p = tak (tak s p) (q - 1) := by
  have A1 := fun i => tak_get (s := tak s q) (a := p) (by rw [tak_len h2]; omega) i
  have A2 := fun i => tak_get (s := s) h2 i
  have B1 := fun i => tak_get (s := tak s p) (a := q - 1) (by rw [tak_len (by omega)]; omega) i
  have B2 := fun i => tak_get (s := s) (a := p) (by omega) i
  refine List.ext_getElem? fun i => ?_
  rw [A1, B1]
  simp only [A2, B2]
  repeat' split
  all_goals first | rfl | omega | (congr 1; omega)
/-- One past another. -/
def past (x y : Op) (f : Bool) : Op :=
  if x.k = 3 ∨ y.k = 3 then x
  else if x.k = 2 ∧ y.k = 2 ∧ x.a = y.a then none_
  else if y.k = 1 then (if y.a < x.a ∨ (y.a = x.a ∧ x.k = 2) ∨ (y.a = x.a ∧ f = false) then ⟨x.k, x.a + 1, x.b⟩ else x)
  else if y.a < x.a then ⟨x.k, x.a - 1, x.b⟩ else x
theorem past_ok {n : Int} {x y : Op} (f : Bool) (hx : Ok n x) (hy : Ok n y) : Ok (n + lon y) (past x y f) := by
  obtain ⟨h0, hx⟩ := hx
  obtain ⟨_, hy⟩ := hy
  unfold past lon Ok
  rcases hy with ⟨k1, k2, k3⟩ | ⟨k1, k2, k3, k4⟩ | ⟨k1, k2, k4⟩
  · rw [if_pos k1]
    rcases hx with ⟨h1, h2, h3⟩ | ⟨h1, h2, h3, h4⟩ | ⟨h1, h2, h4⟩
    · rw [if_neg (by omega), if_neg (by omega), if_pos k1]
      split
      · exact ⟨by omega, .inl ⟨h1, by simp only []; omega, by simp only []; omega⟩⟩
      · exact ⟨by omega, .inl ⟨h1, by omega, by omega⟩⟩
    · rw [if_neg (by omega), if_neg (by omega), if_pos k1]
      split
      · exact ⟨by omega, .inr (.inl ⟨h1, by simp only []; omega, by simp only []; omega, h4⟩)⟩
      · exact ⟨by omega, .inr (.inl ⟨h1, by omega, by omega, h4⟩)⟩
    · rw [if_pos (.inl h1)]
      exact ⟨by omega, .inr (.inr ⟨h1, h2, h4⟩)⟩
  · rw [if_neg (by omega), if_pos k1]
    rcases hx with ⟨h1, h2, h3⟩ | ⟨h1, h2, h3, h4⟩ | ⟨h1, h2, h4⟩
    · rw [if_neg (by omega), if_neg (by omega), if_neg (by omega)]
      split
      · exact ⟨by omega, .inl ⟨h1, by simp only []; omega, by simp only []; omega⟩⟩
      · exact ⟨by omega, .inl ⟨h1, by omega, by omega⟩⟩
    · rw [if_neg (by omega)]
      by_cases c : x.a = y.a
      · rw [if_pos ⟨h1, k1, c⟩]
        exact ⟨by omega, .inr (.inr ⟨rfl, rfl, rfl⟩)⟩
      · rw [if_neg (by omega), if_neg (by omega)]
        split
        · exact ⟨by omega, .inr (.inl ⟨h1, by simp only []; omega, by simp only []; omega, h4⟩)⟩
        · exact ⟨by omega, .inr (.inl ⟨h1, by omega, by omega, h4⟩)⟩
    · rw [if_pos (.inl h1)]
      exact ⟨by omega, .inr (.inr ⟨h1, h2, h4⟩)⟩
  · rw [if_neg (by omega), if_neg (by omega), if_pos (.inr k1)]
    refine ⟨by omega, ?_⟩
    rcases hx with ⟨h1, h2, h3⟩ | ⟨h1, h2, h3, h4⟩ | ⟨h1, h2, h4⟩
    · exact .inl ⟨h1, h2, by omega⟩
    · exact .inr (.inl ⟨h1, h2, by omega, h4⟩)
    · exact .inr (.inr ⟨h1, h2, h4⟩)
theorem do_put {s : List UInt8} {x : Op} (h : x.k = 1) : doL s x = put s x.a.toNat x.b := if_pos h
theorem do_tak {s : List UInt8} {x : Op} (h : x.k = 2) : doL s x = tak s x.a.toNat := by unfold doL; rw [if_neg (by omega), if_pos h]
theorem do_no {s : List UInt8} {x : Op} (h : x.k = 3) : doL s x = s := by unfold doL; rw [if_neg (by omega), if_neg (by omega)]
/-- ELLIS, GIBBS: each past the other one comes to the same. -/
theorem meet {s : List UInt8} {x y : Op} (hx : Ok s.length x) (hy : Ok s.length y) : doL (doL s y) (past x y true) = doL (doL s x) (past y x false) := by
  obtain ⟨_, hx⟩ := hx
  obtain ⟨_, hy⟩ := hy
  rcases hx with ⟨h1, h2, h3⟩ | ⟨h1, h2, h3, h4⟩ | ⟨h1, h2, h4⟩
  · rcases hy with ⟨k1, k2, k3⟩ | ⟨k1, k2, k3, k4⟩ | ⟨k1, k2, k4⟩
    · by_cases c : x.a ≤ y.a
      · have e1 : past x y true = x := by
          unfold past
          rw [if_neg (by omega), if_neg (by omega), if_pos k1, if_neg]
          rintro (c1 | ⟨_, c2⟩ | ⟨_, c3⟩)
          · omega
          · omega
          · cases c3
        have e2 : past y x false = ⟨y.k, y.a + 1, y.b⟩ := by
          unfold past
          rw [if_neg (by omega), if_neg (by omega), if_pos h1, if_pos]
          by_cases d : x.a < y.a
          · exact .inl d
          · exact .inr (.inr ⟨by omega, rfl⟩)
        rw [e1, e2, do_put h1, do_put k1, do_put h1, do_put (x := ⟨y.k, y.a + 1, y.b⟩) k1, show (y.a + 1).toNat = y.a.toNat + 1 by omega]
        exact put_put x.b y.b (by omega) (by omega)
      · have e1 : past x y true = ⟨x.k, x.a + 1, x.b⟩ := by
          unfold past
          rw [if_neg (by omega), if_neg (by omega), if_pos k1, if_pos (.inl (by omega))]
        have e2 : past y x false = y := by
          unfold past
          rw [if_neg (by omega), if_neg (by omega), if_pos h1, if_neg (by omega)]
        rw [e1, e2, do_put (x := ⟨x.k, x.a + 1, x.b⟩) h1, do_put k1, do_put k1, do_put h1, show (x.a + 1).toNat = x.a.toNat + 1 by omega]
        exact (put_put y.b x.b (by omega) (by omega)).symm
    · by_cases c : x.a ≤ y.a
      · have e1 : past x y true = x := by
          unfold past
          rw [if_neg (by omega), if_neg (by omega), if_neg (by omega), if_neg (by omega)]
        have e2 : past y x false = ⟨y.k, y.a + 1, y.b⟩ := by
          unfold past
          rw [if_neg (by omega), if_neg (by omega), if_pos h1, if_pos]
          by_cases d : x.a < y.a
          · exact .inl d
          · exact .inr (.inl ⟨by omega, k1⟩)
        rw [e1, e2, do_put h1, do_tak k1, do_put h1, do_tak (x := ⟨y.k, y.a + 1, y.b⟩) k1, show (y.a + 1).toNat = y.a.toNat + 1 by omega]
        exact put_tak x.b (by omega) (by omega)
      · have e1 : past x y true = ⟨x.k, x.a - 1, x.b⟩ := by
          unfold past
          rw [if_neg (by omega), if_neg (by omega), if_neg (by omega), if_pos (by omega)]
        have e2 : past y x false = y := by
          unfold past
          rw [if_neg (by omega), if_neg (by omega), if_pos h1, if_neg (by omega)]
        rw [e1, e2, do_put (x := ⟨x.k, x.a - 1, x.b⟩) h1, do_tak k1, do_put h1, do_tak k1, show (x.a - 1).toNat = x.a.toNat - 1 by omega]
        exact tak_put x.b (by omega) (by omega)
    · have e1 : past x y true = x := by unfold past; rw [if_pos (.inr k1)]
      have e2 : past y x false = y := by unfold past; rw [if_pos (.inl k1)]
      rw [e1, e2, do_no k1, do_no k1]
  · rcases hy with ⟨k1, k2, k3⟩ | ⟨k1, k2, k3, k4⟩ | ⟨k1, k2, k4⟩
    · by_cases c : y.a ≤ x.a
      · have e1 : past x y true = ⟨x.k, x.a + 1, x.b⟩ := by
          unfold past
          rw [if_neg (by omega), if_neg (by omega), if_pos k1, if_pos]
          by_cases d : y.a < x.a
          · exact .inl d
          · exact .inr (.inl ⟨by omega, h1⟩)
        have e2 : past y x false = y := by
          unfold past
          rw [if_neg (by omega), if_neg (by omega), if_neg (by omega), if_neg (by omega)]
        rw [e1, e2, do_tak (x := ⟨x.k, x.a + 1, x.b⟩) h1, do_put k1, do_put k1, do_tak h1, show (x.a + 1).toNat = x.a.toNat + 1 by omega]
        exact (put_tak y.b (by omega) (by omega)).symm
      · have e1 : past x y true = x := by
          unfold past
          rw [if_neg (by omega), if_neg (by omega), if_pos k1, if_neg (by omega)]
        have e2 : past y x false = ⟨y.k, y.a - 1, y.b⟩ := by
          unfold past
          rw [if_neg (by omega), if_neg (by omega), if_neg (by omega), if_pos (by omega)]
        rw [e1, e2, do_tak h1, do_put k1, do_put (x := ⟨y.k, y.a - 1, y.b⟩) k1, do_tak h1, show (y.a - 1).toNat = y.a.toNat - 1 by omega]
        exact (tak_put y.b (by omega) (by omega)).symm
    · by_cases c : x.a = y.a
      · have e1 : past x y true = none_ := by
          unfold past
          rw [if_neg (by omega), if_pos ⟨h1, k1, c⟩]
        have e2 : past y x false = none_ := by
          unfold past
          rw [if_neg (by omega), if_pos ⟨k1, h1, c.symm⟩]
        rw [e1, e2, do_no (x := none_) rfl, do_no (x := none_) rfl, do_tak h1, do_tak k1, c]
      · by_cases d : x.a < y.a
        · have e1 : past x y true = x := by
            unfold past
            rw [if_neg (by omega), if_neg (by omega), if_neg (by omega), if_neg (by omega)]
          have e2 : past y x false = ⟨y.k, y.a - 1, y.b⟩ := by
            unfold past
            rw [if_neg (by omega), if_neg (by omega), if_neg (by omega), if_pos (by omega)]
          rw [e1, e2, do_tak h1, do_tak k1, do_tak (x := ⟨y.k, y.a - 1, y.b⟩) k1, do_tak h1, show (y.a - 1).toNat = y.a.toNat - 1 by omega]
          exact tak_tak (by omega) (by omega)
        · have e1 : past x y true = ⟨x.k, x.a - 1, x.b⟩ := by
            unfold past
            rw [if_neg (by omega), if_neg (by omega), if_neg (by omega), if_pos (by omega)]
          have e2 : past y x false = y := by
            unfold past
            rw [if_neg (by omega), if_neg (by omega), if_neg (by omega), if_neg (by omega)]
          rw [e1, e2, do_tak (x := ⟨x.k, x.a - 1, x.b⟩) h1, do_tak k1, do_tak k1, do_tak h1, show (x.a - 1).toNat = x.a.toNat - 1 by omega]
          exact (tak_tak (by omega) (by omega)).symm
    · have e1 : past x y true = x := by unfold past; rw [if_pos (.inr k1)]
      have e2 : past y x false = y := by unfold past; rw [if_pos (.inl k1)]
      rw [e1, e2, do_no k1, do_no k1]
  · have e1 : past x y true = x := by unfold past; rw [if_pos (.inl h1)]
    have e2 : past y x false = y := by unfold past; rw [if_pos (.inr h1)]
    rw [e1, e2, do_no h1, do_no h1]

/-- A row of operations, one after the other. -/
def run : List UInt8 → List Op → List UInt8
  | s, [] => s
  | s, x :: L => run (doL s x) L
def OkL : Int → List Op → Prop
  | _, [] => True
  | n, x :: L => Ok n x ∧ OkL (n + lon x) L
def tot : List Op → Int
  | [] => 0
  | x :: L => lon x + tot L
theorem run_len : ∀ {L : List Op} {s : List UInt8}, OkL s.length L → ((run s L).length : Int) = (s.length : Int) + tot L
  | [], _, _ => by simp [run, tot]
  | x :: L, s, h => by
    have h1 := do_len h.1
    have ih := run_len (L := L) (s := doL s x) (by rw [h1]; exact h.2)
    simp only [run, tot]
    omega
theorem tot_le (L : List Op) : -(L.length : Int) ≤ tot L ∧ tot L ≤ (L.length : Int) := by
  induction L with
  | nil => simp [tot]
  | cons x L ih => have := lon_le x; simp only [tot, List.length_cons]; omega
theorem run_app (s : List UInt8) (L M : List Op) : run s (L ++ M) = run (run s L) M := by
  induction L generalizing s with
  | nil => rfl
  | cons x L ih => exact ih (doL s x)
/-- An operation past a row, and the row past it. -/
def thru (x : Op) : List Op → Op × List Op
  | [] => (x, [])
  | y :: B => ((thru (past x y true) B).1, past y x false :: (thru (past x y true) B).2)
def allA : List Op → List Op → List Op × List Op
  | [], B => ([], B)
  | x :: A, B => ((thru x B).1 :: (allA A (thru x B).2).1, (allA A (thru x B).2).2)
theorem thru_ok : ∀ {B : List Op} {x : Op} {n : Int}, Ok n x → OkL n B → Ok (n + tot B) (thru x B).1 ∧ OkL (n + lon x) (thru x B).2
  | [], x, n, hx, _ => by
    exact ⟨by simp only [thru, tot]; rw [Int.add_zero]; exact hx, trivial⟩
  | y :: B, x, n, hx, hB => by
    have ih := thru_ok (B := B) (past_ok true hx hB.1) hB.2
    have hl : lon y + lon (past x y true) = lon x + lon (past y x false) := by
      -- both ways lead to the same length
      have h0 := hx.1
      obtain ⟨m, rfl⟩ := Int.eq_ofNat_of_zero_le h0
      have e := meet (s := List.replicate m 0) (x := x) (y := y) (by rw [List.length_replicate]; exact hx) (by rw [List.length_replicate]; exact hB.1)
      have hx' : Ok ((List.replicate m (0 : UInt8)).length : Int) x := by rw [List.length_replicate]; exact hx
      have hy' : Ok ((List.replicate m (0 : UInt8)).length : Int) y := by rw [List.length_replicate]; exact hB.1
      have a1 := do_len hx'
      have a2 := do_len hy'
      have b1 := do_len (s := doL (List.replicate m 0) y) (x := past x y true) (by rw [a2]; exact past_ok true hx' hy')
      have b2 := do_len (s := doL (List.replicate m 0) x) (x := past y x false) (by rw [a1]; exact past_ok false hy' hx')
      rw [e] at b1
      omega
    refine ⟨?_, past_ok false hB.1 hx, ?_⟩
    · simp only [thru, tot]
      rw [← Int.add_assoc]
      exact ih.1
    · have := ih.2
      rw [show n + lon y + lon (past x y true) = n + lon x + lon (past y x false) by omega] at this
      exact this
theorem thru_meet : ∀ {B : List Op} {x : Op} {s : List UInt8}, Ok s.length x → OkL s.length B → doL (run s B) (thru x B).1 = run (doL s x) (thru x B).2
  | [], _, _, _, _ => rfl
  | y :: B, x, s, hx, hB => by
    have hl := do_len hB.1
    have ih := thru_meet (B := B) (x := past x y true) (s := doL s y) (by rw [hl]; exact past_ok true hx hB.1) (by rw [hl]; exact hB.2)
    simp only [run, thru]
    rw [ih, meet hx hB.1]
theorem all_ok : ∀ {A B : List Op} {n : Int}, OkL n A → OkL n B → OkL (n + tot B) (allA A B).1 ∧ OkL (n + tot A) (allA A B).2
  | [], B, n, _, hB => ⟨trivial, by simp only [allA, tot]; rw [Int.add_zero]; exact hB⟩
  | x :: A, B, n, hA, hB => by
    obtain ⟨h1, h2⟩ := thru_ok hA.1 hB
    have ih := all_ok (A := A) hA.2 h2
    have hl : lon x + tot (thru x B).2 = tot B + lon (thru x B).1 := by
      have h0 := hA.1.1
      obtain ⟨m, rfl⟩ := Int.eq_ofNat_of_zero_le h0
      have hx' : Ok ((List.replicate m (0 : UInt8)).length : Int) x := by rw [List.length_replicate]; exact hA.1
      have hB' : OkL ((List.replicate m (0 : UInt8)).length : Int) B := by rw [List.length_replicate]; exact hB
      have e := thru_meet hx' hB'
      have a1 := do_len hx'
      have a2 := run_len hB'
      obtain ⟨t1, t2⟩ := thru_ok hx' hB'
      have b1 := do_len (s := run (List.replicate m 0) B) (x := (thru x B).1) (by rw [a2]; exact t1)
      have b2 := run_len (s := doL (List.replicate m 0) x) (L := (thru x B).2) (by rw [a1]; exact t2)
      rw [e] at b1
      omega
    refine ⟨⟨h1, ?_⟩, ?_⟩
    · have := ih.1
      rw [show n + lon x + tot (thru x B).2 = n + tot B + lon (thru x B).1 by omega] at this
      exact this
    · simp only [allA, tot]
      rw [← Int.add_assoc]
      exact ih.2
/-- RESSEL: two rows come to the same. -/
theorem all_meet : ∀ {A B : List Op} {s : List UInt8}, OkL s.length A → OkL s.length B → run (run s B) (allA A B).1 = run (run s A) (allA A B).2
  | [], _, _, _, _ => rfl
  | x :: A, B, s, hA, hB => by
    have hl := do_len hA.1
    obtain ⟨_, h2⟩ := thru_ok hA.1 hB
    have ih := all_meet (A := A) (B := (thru x B).2) (s := doL s x) (by rw [hl]; exact hA.2) (by rw [hl]; exact h2)
    simp only [run, allA]
    rw [thru_meet hA.1 hB, ih]
theorem thru_len : ∀ (B : List Op) (x : Op), (thru x B).2.length = B.length
  | [], _ => rfl
  | y :: B, x => by simp only [thru, List.length_cons, thru_len B]
theorem all_len : ∀ (A B : List Op), (allA A B).1.length = A.length ∧ (allA A B).2.length = B.length
  | [], _ => ⟨rfl, rfl⟩
  | x :: A, B => by
    have ih := all_len A (thru x B).2
    simp only [allA, List.length_cons, ih.1, ih.2, thru_len]
    exact ⟨trivial, trivial⟩
theorem all_nil : ∀ A : List Op, allA A [] = (A, [])
  | [] => rfl
  | x :: A => by
    simp only [allA, thru]
    rw [all_nil A]
/-- The first so many. -/
theorem all_take : ∀ (A B : List Op) (k : Nat), (allA (A.take k) B).1 = (allA A B).1.take k
  | [], B, k => by simp [allA]
  | x :: A, B, 0 => by simp [allA]
  | x :: A, B, k + 1 => by
    simp only [List.take_succ_cons, allA]
    rw [all_take A (thru x B).2 k]
/-- The other way round: operation by operation of B. -/
def thruY : List Op → Op → List Op × Op
  | [], y => ([], y)
  | x :: A, y => (past x y true :: (thruY A (past y x false)).1, (thruY A (past y x false)).2)
def allB : List Op → List Op → List Op × List Op
  | A, [] => (A, [])
  | A, y :: B => ((allB (thruY A y).1 B).1, (thruY A y).2 :: (allB (thruY A y).1 B).2)
theorem all_cons : ∀ (A : List Op) (y : Op) (B : List Op), allA A (y :: B) = ((allA (thruY A y).1 B).1, (thruY A y).2 :: (allA (thruY A y).1 B).2)
  | [], y, B => rfl
  | x :: A, y, B => by
    simp only [allA, thru, thruY]
    rw [all_cons A (past y x false) (thru (past x y true) B).2]
theorem all_same : ∀ (B A : List Op), allB A B = allA A B
  | [], A => (all_nil A).symm
  | y :: B, A => by
    simp only [allB]
    rw [all_cons, all_same B (thruY A y).1]
theorem all_take2 : ∀ (B A : List Op) (k : Nat), (allA A (B.take k)).2 = (allA A B).2.take k
  | [], A, k => by rw [List.take_nil, all_nil]; simp
  | y :: B, A, 0 => by rw [List.take_zero, all_nil, List.take_zero]
  | y :: B, A, k + 1 => by
    rw [List.take_succ_cons, all_cons, all_cons]
    simp only [List.take_succ_cons]
    rw [all_take2 B (thruY A y).1 k]
/-- A row that no check refuses. -/
def RowOk : Int → List Op → Prop
  | _, [] => True
  | n, x :: L => opErr n x = 0 ∧ RowOk (n + lon x) L
theorem rowOk_of : ∀ {L : List Op} {n : Int}, OkL n L → (∀ i, i < L.length → n + tot (L.take i) < 200) → RowOk n L
  | [], _, _, _ => trivial
  | x :: L, n, h, hb => by
    have h0 := hb 0 (by simp)
    simp only [List.take_zero, tot] at h0
    refine ⟨err_zero.2 ⟨h.1, by omega, fun _ => by omega⟩, rowOk_of h.2 fun i hi => ?_⟩
    have := hb (i + 1) (by simp only [List.length_cons]; omega)
    simp only [List.take_succ_cons, tot] at this
    omega
/-- What is wrong with a row; c: how many operations there are in all. -/
def sErr (c : Int) : Int → List Op → Int
  | n, [] => if 200 < n + c then 11 else 0
  | n, x :: L => if opErr n x = 0 then sErr c (n + lon x) L else opErr n x
def allErr (n : Int) (A B : List Op) : Int :=
  if 30 < A.length ∨ 30 < B.length then 2
  else if sErr (A.length + B.length) n A = 0 then sErr (A.length + B.length) n B else sErr (A.length + B.length) n A
theorem sErr_zero {c : Int} : ∀ {L : List Op} {n : Int}, sErr c n L = 0 ↔ RowOk n L ∧ n + tot L + c ≤ 200
  | [], n => by
    simp only [sErr, RowOk, tot]
    split
    · exact ⟨fun h => absurd h (by decide), fun h => by omega⟩
    · exact ⟨fun _ => ⟨trivial, by omega⟩, fun _ => rfl⟩
  | x :: L, n => by
    simp only [sErr, RowOk, tot]
    by_cases h : opErr n x = 0
    · rw [if_pos h, sErr_zero (L := L)]
      exact ⟨fun k => ⟨⟨h, k.1⟩, by omega⟩, fun k => ⟨k.1.2, by omega⟩⟩
    · rw [if_neg h]
      exact ⟨fun k => absurd k h, fun k => absurd k.1.1 h⟩
theorem rowOk_ok : ∀ {L : List Op} {n : Int}, RowOk n L → OkL n L
  | [], _, _ => trivial
  | _ :: _, _, h => ⟨(err_zero.1 h.1).1, rowOk_ok h.2⟩
theorem allErr_zero {n : Int} {A B : List Op} : allErr n A B = 0 ↔ A.length ≤ 30 ∧ B.length ≤ 30 ∧ (RowOk n A ∧ n + tot A + (A.length + B.length) ≤ 200) ∧ (RowOk n B ∧ n + tot B + (A.length + B.length) ≤ 200) := by
  unfold allErr
  by_cases h : 30 < A.length ∨ 30 < B.length
  · rw [if_pos h]; exact ⟨fun k => absurd k (by decide), fun k => by omega⟩
  · rw [if_neg h]
    by_cases h2 : sErr (A.length + B.length) n A = 0
    · rw [if_pos h2, sErr_zero]
      exact ⟨fun k => ⟨by omega, by omega, sErr_zero.1 h2, k⟩, fun k => k.2.2.2⟩
    · rw [if_neg h2]
      exact ⟨fun k => absurd k h2, fun k => absurd (sErr_zero.2 k.2.2.1) h2⟩
theorem tot_app (L M : List Op) : tot (L ++ M) = tot L + tot M := by
  induction L with
  | nil => simp [tot]
  | cons x L ih => rw [List.cons_append]; simp only [tot]; omega
theorem tot_take (L : List Op) (i : Nat) : tot (L.take i) ≤ tot L + ((L.length : Int) - (min i L.length : Nat)) := by
  have h := tot_app (L.take i) (L.drop i)
  rw [List.take_append_drop] at h
  have := tot_le (L.drop i)
  rw [List.length_drop] at this
  omega
theorem okL_take : ∀ {L : List Op} {n : Int} (k : Nat), OkL n L → OkL n (L.take k)
  | [], _, k, _ => by rw [List.take_nil]; trivial
  | _ :: _, _, 0, _ => trivial
  | _ :: _, _, k + 1, h => ⟨h.1, okL_take k h.2⟩
/-- Both ways lead to the same length. -/
theorem all_tot {A B : List Op} {n : Nat} (hA : OkL n A) (hB : OkL n B) : tot B + tot (allA A B).1 = tot A + tot (allA A B).2 := by
  have hA' : OkL ((List.replicate n (0 : UInt8)).length : Int) A := by rw [List.length_replicate]; exact hA
  have hB' : OkL ((List.replicate n (0 : UInt8)).length : Int) B := by rw [List.length_replicate]; exact hB
  obtain ⟨o1, o2⟩ := all_ok hA' hB'
  have e := all_meet hA' hB'
  have a1 := run_len hA'
  have a2 := run_len hB'
  have b1 := run_len (s := run (List.replicate n 0) B) (by rw [a2]; exact o1)
  have b2 := run_len (s := run (List.replicate n 0) A) (by rw [a1]; exact o2)
  rw [e] at b1
  omega
/-- All four rows are ones that no check refuses. -/
theorem rows_ok {A B : List Op} {n : Nat} (hA : RowOk n A) (hB : RowOk n B) (ha : (n : Int) + tot A + (A.length + B.length) ≤ 200) (hb : (n : Int) + tot B + (A.length + B.length) ≤ 200) :
    RowOk ((n : Int) + tot B) (allA A B).1 ∧ RowOk ((n : Int) + tot A) (allA A B).2 := by
  obtain ⟨o1, o2⟩ := all_ok (rowOk_ok hA) (rowOk_ok hB)
  obtain ⟨l1, l2⟩ := all_len A B
  constructor
  · refine rowOk_of o1 fun i hi => ?_
    rw [l1] at hi
    by_cases h0 : i = 0
    · rw [h0, List.take_zero]; simp only [tot]; omega
    · rw [← all_take]
      have e := all_tot (okL_take i (rowOk_ok hA)) (rowOk_ok hB)
      have l := (all_len (A.take i) B).2
      have t1 := tot_le (allA (A.take i) B).2
      have t2 := tot_take A i
      rw [l] at t1
      omega
  · refine rowOk_of o2 fun i hi => ?_
    rw [l2] at hi
    by_cases h0 : i = 0
    · rw [h0, List.take_zero]; simp only [tot]; omega
    · rw [← all_take2]
      have e := all_tot (rowOk_ok hA) (okL_take i (rowOk_ok hB))
      have l := (all_len A (B.take i)).1
      have t1 := tot_le (allA A (B.take i)).1
      have t2 := tot_take B i
      rw [l] at t1
      omega
end Go.Proofs.Ytgkagigagcamoaa.Sh
