
/-
What two texts begin with alike (cp), and the one edit that is between them. No program is named here.
-/
import Derived.Test.YtgkagigagcamoaaEdMath
namespace Go.Proofs.Ytgkagigagcamoaa.Es

/-- How many bytes two texts have in common at their fronts. -/
def cp : List UInt8 → List UInt8 → Nat
  | x :: a, y :: b => if x = y then cp a b + 1 else 0
  | _, _ => 0
theorem cp_le : ∀ a b : List UInt8, cp a b ≤ a.length ∧ cp a b ≤ b.length
  | [], b => by simp [cp]
  | x :: a, [] => by simp [cp]
  | x :: a, y :: b => by
    have := cp_le a b
    simp only [cp, List.length_cons]
    split <;> omega
theorem cp_take : ∀ a b : List UInt8, a.take (cp a b) = b.take (cp a b)
  | [], b => by simp [cp]
  | x :: a, [] => by simp [cp]
  | x :: a, y :: b => by
    simp only [cp]
    by_cases h : x = y
    · rw [if_pos h, List.take_succ_cons, List.take_succ_cons, h, cp_take a b]
    · rw [if_neg h]; simp
theorem cp_max : ∀ {a b : List UInt8} {m : Nat}, m ≤ a.length → m ≤ b.length → a.take m = b.take m → m ≤ cp a b
  | _, _, 0, _, _, _ => Nat.zero_le _
  | [], _, m + 1, h, _, _ => by simp at h
  | _ :: _, [], m + 1, _, h, _ => by simp at h
  | x :: a, y :: b, m + 1, ha, hb, h => by
    rw [List.take_succ_cons, List.take_succ_cons] at h
    injection h with h1 h2
    have := cp_max (a := a) (b := b) (by simpa using ha) (by simpa using hb) h2
    simp only [cp]
    rw [if_pos h1]
    omega
/-- By places: all ahead of k are alike, and there it ends. -/
theorem cp_is {a b : List UInt8} {k : Nat} (ha : k ≤ a.length) (hb : k ≤ b.length) (h : ∀ j, j < k → a.getD j 0 = b.getD j 0) (he : k = a.length ∨ k = b.length ∨ a.getD k 0 ≠ b.getD k 0) : cp a b = k := by
  induction a generalizing b k with
  | nil => simp at ha; subst ha; cases b <;> rfl
  | cons x a ih =>
    cases b with
    | nil => simp at hb; subst hb; rfl
    | cons y b =>
      cases k with
      | zero =>
        simp only [cp]
        rcases he with he | he | he
        · simp at he
        · simp at he
        · rw [if_neg]; simpa using he
      | succ k =>
        have h0 := h 0 (by omega)
        have h0' : x = y := by simpa using h0
        simp only [cp]
        rw [if_pos h0', ih (by simpa using ha) (by simpa using hb) (fun j hj => by have := h (j + 1) (by omega); simpa using this) (by
          rcases he with he | he | he
          · left; simpa using he
          · right; left; simpa using he
          · right; right; simpa using he)]
/-- From behind. -/
def cs (a b : List UInt8) : Nat := cp a.reverse b.reverse
theorem cs_le (a b : List UInt8) : cs a b ≤ a.length ∧ cs a b ≤ b.length := by
  have := cp_le a.reverse b.reverse
  rw [List.length_reverse, List.length_reverse] at this
  exact this
theorem cs_drop (a b : List UInt8) : a.drop (a.length - cs a b) = b.drop (b.length - cs a b) := by
  have h := cp_take a.reverse b.reverse
  rw [List.take_reverse, List.take_reverse] at h
  exact List.reverse_inj.1 h
theorem cs_max {a b : List UInt8} {m : Nat} (ha : m ≤ a.length) (hb : m ≤ b.length) (h : a.drop (a.length - m) = b.drop (b.length - m)) : m ≤ cs a b :=
  cp_max (by rw [List.length_reverse]; exact ha) (by rw [List.length_reverse]; exact hb) (by rw [List.take_reverse, List.take_reverse, h])
theorem cs_is {a b : List UInt8} {k : Nat} (ha : k ≤ a.length) (hb : k ≤ b.length) (h : ∀ j, j < k → a.getD (a.length - 1 - j) 0 = b.getD (b.length - 1 - j) 0) (he : k = a.length ∨ k = b.length ∨ a.getD (a.length - 1 - k) 0 ≠ b.getD (b.length - 1 - k) 0) : cs a b = k := by
  have rev : ∀ (l : List UInt8) (j : Nat), j < l.length → l.reverse.getD j 0 = l.getD (l.length - 1 - j) 0 := by
    intro l j hj
    rw [List.getD_eq_getElem?_getD, List.getD_eq_getElem?_getD, List.getElem?_reverse hj]
  refine cp_is (by rw [List.length_reverse]; exact ha) (by rw [List.length_reverse]; exact hb) (fun j hj => ?_) ?_
  · rw [rev a j (by omega), rev b j (by omega)]; exact h j hj
  · rw [List.length_reverse, List.length_reverse]
    by_cases h1 : k = a.length
    · exact .inl h1
    · by_cases h2 : k = b.length
      · exact .inr (.inl h2)
      · rcases he with he | he | he
        · exact absurd he h1
        · exact absurd he h2
        · right; right
          rw [rev a k (by omega), rev b k (by omega)]
          exact he
/-- The one edit between two texts: its place, how much it takes, what it puts. -/
def bi (s t : List UInt8) : Nat := cp s t
def bj (s t : List UInt8) : Nat := cs (s.drop (bi s t)) (t.drop (bi s t))
theorem b_le (s t : List UInt8) : bi s t + bj s t ≤ s.length ∧ bi s t + bj s t ≤ t.length := by
  have h1 := cp_le s t
  have h2 := cs_le (s.drop (bi s t)) (t.drop (bi s t))
  rw [List.length_drop, List.length_drop] at h2
  unfold bj bi at *
  omega
def btw (s t : List UInt8) : Ev := ⟨(bi s t : Nat), (s.length - bi s t - bj s t : Nat), mkS ((t.drop (bi s t)).take (t.length - bi s t - bj s t))⟩
theorem split3 (s : List UInt8) {i j : Nat} (h : i + j ≤ s.length) : s = s.take i ++ ((s.drop i).take (s.length - i - j) ++ s.drop (s.length - j)) := by
  have e : s.drop (s.length - j) = (s.drop i).drop (s.length - i - j) := by rw [List.drop_drop]; congr 1; omega
  rw [e, List.take_append_drop, List.take_append_drop]
/-- Both texts, parted by it. -/
theorem btw_parts (s t : List UInt8) : ∃ P D I Q, s = P ++ (D ++ Q) ∧ t = P ++ (I ++ Q) ∧ P.length = bi s t ∧ Q.length = bj s t ∧ D.length = s.length - bi s t - bj s t ∧ btw s t = ⟨(P.length : Nat), (D.length : Nat), mkS I⟩ := by
  obtain ⟨h1, h2⟩ := b_le s t
  have hP : s.take (bi s t) = t.take (bi s t) := cp_take s t
  have hQ : s.drop (s.length - bj s t) = t.drop (t.length - bj s t) := by
    have h := cs_drop (s.drop (bi s t)) (t.drop (bi s t))
    rw [List.drop_drop, List.drop_drop, List.length_drop, List.length_drop] at h
    rw [show bi s t + (s.length - bi s t - cs (s.drop (bi s t)) (t.drop (bi s t))) = s.length - bj s t by unfold bj at *; omega, show bi s t + (t.length - bi s t - cs (s.drop (bi s t)) (t.drop (bi s t))) = t.length - bj s t by unfold bj at *; omega] at h
    exact h
  have l1 : (s.take (bi s t)).length = bi s t := by rw [List.length_take]; omega
  have l2 : ((s.drop (bi s t)).take (s.length - bi s t - bj s t)).length = s.length - bi s t - bj s t := by rw [List.length_take, List.length_drop]; omega
  refine ⟨s.take (bi s t), (s.drop (bi s t)).take (s.length - bi s t - bj s t), (t.drop (bi s t)).take (t.length - bi s t - bj s t), s.drop (s.length - bj s t), split3 s h1, ?_, l1, ?_, l2, ?_⟩
  · rw [hP, hQ]; exact split3 t h2
  · rw [List.length_drop]; omega
  · rw [l1, l2]; rfl
/-- If nothing is taken and nothing put, they are the same. -/
theorem btw_some {s t : List UInt8} (h : s ≠ t) : 0 < (btw s t).d ∨ 0 < (btw s t).s.size := by
  obtain ⟨P, D, I, Q, h1, h2, _, _, _, h6⟩ := btw_parts s t
  rw [h6]
  simp only [mk_size]
  by_cases hd : 0 < D.length
  · left; omega
  · right
    refine Nat.pos_of_ne_zero fun hi => h ?_
    rw [h1, h2, List.eq_nil_of_length_eq_zero (show D.length = 0 by omega), List.eq_nil_of_length_eq_zero hi]
/-- No other single edit takes less, or puts less. -/
theorem btw_least {s t ins : List UInt8} {a d : Nat} (had : a + d ≤ s.length) (h : t = s.take a ++ (ins ++ s.drop (a + d))) : (btw s t).d ≤ d ∧ (btw s t).s.size ≤ ins.length := by
  have hl := congrArg List.length h
  rw [List.length_append, List.length_append, List.length_take, List.length_drop] at hl
  have hb := b_le s t
  have hpa : a ≤ bi s t := by
    refine cp_max (by omega) (by omega) ?_
    rw [h, List.take_append_of_le_length (by rw [List.length_take]; omega), List.take_take, Nat.min_self]
  have hI : (btw s t).s.size = t.length - bi s t - bj s t := by
    unfold btw
    rw [mk_size, List.length_take, List.length_drop]; omega
  have hD : (btw s t).d = ((s.length - bi s t - bj s t : Nat) : Int) := rfl
  -- the common end of what is left behind the common front
  have hj : min (s.length - bi s t) (min (t.length - bi s t) (s.length - (a + d))) ≤ bj s t := by
    obtain ⟨m, hm⟩ : ∃ m, m = min (s.length - bi s t) (min (t.length - bi s t) (s.length - (a + d))) := ⟨_, rfl⟩
    rw [← hm]
    refine cs_max (by rw [List.length_drop]; omega) (by rw [List.length_drop]; omega) ?_
    rw [List.drop_drop, List.drop_drop, List.length_drop, List.length_drop]
    rw [show bi s t + (s.length - bi s t - m) = s.length - m by omega, show bi s t + (t.length - bi s t - m) = t.length - m by omega]
    have e1 : s.drop (s.length - m) = (s.drop (a + d)).drop ((s.length - (a + d)) - m) := by rw [List.drop_drop]; congr 1; omega
    have e2 : t.drop (t.length - m) = (s.drop (a + d)).drop ((s.length - (a + d)) - m) := by
      have e3 : t.length - m = (s.take a ++ ins).length + ((s.length - (a + d)) - m) := by rw [List.length_append, List.length_take]; omega
      rw [e3, ← List.drop_drop]
      congr 1
      rw [h, ← List.append_assoc, List.drop_left]
    rw [e1, e2]
  rw [hI, hD]
  omega
theorem row_one (n e : Int) (x : Ev) : rowErr n e [x] = one n e x := by
  show (if one n e x = 0 then (0 : Int) else one n e x) = one n e x
  by_cases h : one n e x = 0
  · rw [if_pos h, h]
  · rw [if_neg h]
/-- Its check: only what it puts can be too great. -/
theorem btw_err {s t : List UInt8} (h : s ≠ t) (hs : s.length ≤ 200) (ht : t.length ≤ 200) : eErr s.length [btw s t] = if 40 < (btw s t).s.size then 2 else 0 := by
  have hp := btw_some h
  obtain ⟨P, D, I, Q, h1, h2, h3, h4, h5, h6⟩ := btw_parts s t
  rw [h6] at hp ⊢
  simp only [mk_size] at hp ⊢
  have l1 := congrArg List.length h1
  have l2 := congrArg List.length h2
  simp only [List.length_append] at l1 l2
  have hone : one s.length (-1) ⟨(P.length : Nat), (D.length : Nat), mkS I⟩ = if 40 < I.length then 2 else 0 := by
    unfold one
    simp only [mk_size]
    rw [if_neg (by omega)]
    by_cases h40 : 40 < I.length
    · rw [if_pos h40, if_pos h40]
    · rw [if_neg h40, if_neg h40, if_neg (by omega), if_neg (by omega)]
  have hg : gro [⟨(P.length : Nat), (D.length : Nat), mkS I⟩] = (I.length : Int) - (D.length : Int) := by
    simp only [gro, mk_size]; omega
  unfold eErr
  rw [if_neg (by omega), if_neg (by simp), row_one, hone, hg]
  by_cases h40 : 40 < I.length
  · rw [if_pos h40]; rfl
  · rw [if_neg h40, if_pos rfl, if_neg (by omega)]
/-- What it makes of the one is the other. -/
theorem btw_scr {s t : List UInt8} (h : s ≠ t) (hs : s.length ≤ 200) (ht : t.length ≤ 200) (h40 : (btw s t).s.size ≤ 40) : ∃ G q, Scr s [btw s t] G q ∧ dst G q = t := by
  have hp := btw_some h
  obtain ⟨P, D, I, Q, h1, h2, h3, h4, h5, h6⟩ := btw_parts s t
  rw [h6] at hp h40
  simp only [mk_size] at hp h40
  refine ⟨[⟨P, D, I⟩], Q, ⟨?_, ?_, ?_, by simp, hs, ?_⟩, ?_⟩
  · exact h1.symm
  · rw [h6]
    simp only [evs, Nat.zero_add]
  · refine ⟨.inl rfl, h40, ?_, trivial⟩
    simp only []
    omega
  · show (P ++ (I ++ Q)).length ≤ 200
    rw [← h2]; exact ht
  · exact h2.symm
end Go.Proofs.Ytgkagigagcamoaa.Es
