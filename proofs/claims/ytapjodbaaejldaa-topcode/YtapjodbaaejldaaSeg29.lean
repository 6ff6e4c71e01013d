/-
Several texts of this proof, one behind the other.
-/
import Derived.Test.YtapjodbaaejldaaSRows
import Derived.Test.YtapjodbaaejldaaShelfL
import Derived.Test.YtapjodbaaejldaaMathAll

/-
The library's functions on rows of strings, at rows that read as one knows: slices.Equal, strings.Join with nothing between, slices.Min and slices.Index.
-/
namespace Go.Proofs.Ytapjodbaaejldaa
open Go.RowKit

/-- The row's strings as a list. -/
def rowL (g : Nat → ByteArray) (n : Nat) : List ByteArray := (List.range n).map g
theorem rowL_len (g : Nat → ByteArray) (n : Nat) : (rowL g n).length = n := by unfold rowL; simp
theorem rowL_get {g : Nat → ByteArray} {n k : Nat} (h : k < n) : (rowL g n).getD k ByteArray.empty = g k := by
  unfold rowL
  simp [List.getD_eq_getElem?_getD, List.getElem?_range h]
theorem rowL_of (N : List ByteArray) : rowL (fun k => N.getD k ByteArray.empty) N.length = N := by
  refine List.ext_getElem (by rw [rowL_len]) fun i h1 h2 => ?_
  have := rowL_get (g := fun k => N.getD k ByteArray.empty) h2
  rw [getD_lt h1, getD_lt h2] at this
  exact this
theorem rowL_eq {g h : Nat → ByteArray} {n m : Nat} : rowL g n = rowL h m ↔ n = m ∧ ∀ k, k < n → g k = h k := by
  constructor
  · intro e
    have hl := congrArg List.length e
    rw [rowL_len, rowL_len] at hl
    subst hl
    refine ⟨rfl, fun k hk => ?_⟩
    rw [← rowL_get (g := g) hk, e, rowL_get hk]
  · rintro ⟨rfl, h1⟩
    refine List.ext_getElem (by rw [rowL_len, rowL_len]) fun i h2 h3 => ?_
    rw [rowL_len] at h2
    rw [← getD_lt (d := ByteArray.empty), ← getD_lt (d := ByteArray.empty), rowL_get h2, rowL_get h2]
    exact h1 i h2
theorem SRow.spot {w : World} {A : Option Addr} {n : Nat} {g : Nat → ByteArray} (h : SRow w A n g) (hn : 0 < n) : ∃ b o, A = some ⟨b, o, none⟩ ∧ b < w.heap.size ∧ ∀ k, k < n → w.cell? ⟨b, o + k, none⟩ = some (.string (g k)) := by
  obtain ⟨b, o, rfl, hb, _⟩ := h 0 hn
  refine ⟨b, o, rfl, hb, fun k hk => ?_⟩
  obtain ⟨b', o', e, _, hc⟩ := h k hk
  injection e with e
  injection e with e1 e2
  subst e1; subst e2
  exact hc
theorem sindex_any {A : Option Addr} {n c j0 : Nat} {g : Nat → ByteArray} {w : World} (h : SRow w A n g) (hn : n ≤ maxLen) (hj : j0 < n) (hm : ∀ j, j < j0 → g j ≠ g j0) :
    Calls Try.prog 144 #[.slice A n c, .string (g j0)] w fun e w' => e = .returned (.int .i64 (j0 : Int)) ∧ w = w' := by
  unfold maxLen at hn
  obtain ⟨b, o, rfl, hb, hcell⟩ := h.spot (by omega)
  have hlen := rowL_len g n
  refine (Try.slices_Index_string b o n c (rowL g n) (g j0) w (by omega) (by omega) (fun j hj => ?_)).mono ?_
  · rw [rowL_get (by omega)]; exact hcell j (by omega)
  rintro e w1 ⟨rfl, rfl⟩
  rw [Lib.idxOfS_hit (rowL g n) n j0 (g j0) hj (by omega) (rowL_get hj) (fun j hj2 => by rw [rowL_get (by omega)]; exact hm j hj2)]
  exact ⟨rfl, rfl⟩
end Go.Proofs.Ytapjodbaaejldaa


/-
A list of strings as a list of words.
-/
namespace Go.Proofs.Ytapjodbaaejldaa
open Go.RowKit

/-- The words of a row. -/
def cws (g : Nat → ByteArray) (n : Nat) : List (List UInt8) := (List.range n).map fun k => wd (g k)
theorem cws_len (g : Nat → ByteArray) (n : Nat) : (cws g n).length = n := by unfold cws; simp
theorem cws_get {g : Nat → ByteArray} {n k : Nat} (h : k < n) : (cws g n).getD k [] = wd (g k) := by
  unfold cws
  rw [List.getD_eq_getElem?_getD, List.getElem?_map, List.getElem?_range h]
  rfl
theorem mem_cws {g : Nat → ByteArray} {n : Nat} {x : List UInt8} : x ∈ cws g n ↔ ∃ k, k < n ∧ wd (g k) = x := by
  unfold cws
  rw [List.mem_map]
  constructor
  · rintro ⟨k, hk, e⟩; exact ⟨k, List.mem_range.1 hk, e⟩
  · rintro ⟨k, hk, e⟩; exact ⟨k, List.mem_range.2 hk, e⟩
theorem cws_take {g : Nat → ByteArray} {n i : Nat} (h : i ≤ n) : (cws g n).take i = cws g i := by
  unfold cws
  rw [← List.map_take, List.take_range, Nat.min_eq_left h]
theorem cws_congr {g g' : Nat → ByteArray} {n : Nat} (h : ∀ k, k < n → g k = g' k) : cws g n = cws g' n := by
  unfold cws
  exact List.map_congr_left fun k hk => by rw [h k (List.mem_range.1 hk)]
theorem first_at (g : Nat → ByteArray) : ∀ i, ∃ j0, j0 ≤ i ∧ g j0 = g i ∧ ∀ j, j < j0 → g j ≠ g i := by
  intro i
  by_cases hx : ∃ j, j < i ∧ g j = g i
  · have key : ∀ m, (∃ j, j < m ∧ g j = g i) → ∃ j0, j0 < m ∧ g j0 = g i ∧ ∀ j, j < j0 → g j ≠ g i := by
      intro m
      induction m with
      | zero => rintro ⟨j, h, _⟩; omega
      | succ m ih =>
        intro hm
        by_cases h : ∃ j, j < m ∧ g j = g i
        · obtain ⟨j0, h1, h2⟩ := ih h
          exact ⟨j0, by omega, h2⟩
        · obtain ⟨j, h1, h2⟩ := hm
          have : j = m := by
            rcases Nat.lt_or_ge j m with h3 | h3
            · exact absurd ⟨j, h3, h2⟩ h
            · omega
          subst this
          exact ⟨j, by omega, h2, fun k hk e => h ⟨k, hk, e⟩⟩
    obtain ⟨j0, h1, h2, h3⟩ := key i hx
    exact ⟨j0, by omega, h2, h3⟩
  · exact ⟨i, Nat.le_refl _, rfl, fun j hj e => hx ⟨j, hj, e⟩⟩
theorem bits_count : ∀ (w : List UInt8), w.count 48 + w.count 49 ≤ w.length ∧ (w.count 48 + w.count 49 = w.length ↔ w.all Cm.isBit = true)
  | [] => by simp
  | a :: w => by
    have ih := bits_count w
    rw [List.count_cons, List.count_cons, List.length_cons, List.all_cons]
    by_cases h0 : a = 48
    · subst h0
      have : Cm.isBit 48 = true := rfl
      rw [this, Bool.true_and]
      simp only [beq_self_eq_true, if_true, show ((48 : UInt8) == 49) = false from rfl, Bool.false_eq_true, if_false]
      constructor
      · omega
      · rw [← ih.2]; omega
    · by_cases h1 : a = 49
      · subst h1
        have : Cm.isBit 49 = true := rfl
        rw [this, Bool.true_and]
        simp only [beq_self_eq_true, if_true, show ((49 : UInt8) == 48) = false from rfl, Bool.false_eq_true, if_false]
        constructor
        · omega
        · rw [← ih.2]; omega
      · have : Cm.isBit a = false := by unfold Cm.isBit; simp [h0, h1]
        rw [this, Bool.false_and]
        have e0 : (a == (48 : UInt8)) = false := beq_eq_false_iff_ne.2 h0
        have e1 : (a == (49 : UInt8)) = false := beq_eq_false_iff_ne.2 h1
        simp only [e0, e1, Bool.false_eq_true, if_false]
        constructor
        · omega
        · constructor
          · intro h; omega
          · intro h; cases h
theorem wE_is {seen : List (List UInt8)} {x : ByteArray} {p : Prop} [Decidable p] (hm : wd x ∈ seen ↔ p) :
    Cm.wE seen (wd x) = if x.size = 0 then 5 else if 12 < x.size then 2 else if (wd x).count 48 + (wd x).count 49 ≠ x.size then 3 else if p then 10 else 0 := by
  have h1 : wd x = [] ↔ x.size = 0 := by rw [← wd_len]; exact List.length_eq_zero_iff.symm
  have h2 : (wd x).all Cm.isBit = false ↔ (wd x).count 48 + (wd x).count 49 ≠ x.size := by
    rw [← wd_len, ← Bool.not_eq_true, ne_eq, (bits_count (wd x)).2]
  unfold Cm.wE
  rw [wd_len]
  exact ite_congr (propext h1) (fun _ => rfl) fun _ => ite_congr rfl (fun _ => rfl) fun _ => ite_congr (propext h2) (fun _ => rfl) fun _ => ite_congr (propext hm) (fun _ => rfl) fun _ => rfl
end Go.Proofs.Ytapjodbaaejldaa

