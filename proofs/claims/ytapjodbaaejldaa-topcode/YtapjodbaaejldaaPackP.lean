
/-
What package pack's functions are to leave: words for the contracts.
-/
import Derived.Test.YtapjodbaaejldaaMathAll
import Derived.Test.YtapjodbaaejldaaSeg29
namespace Go.Proofs.Ytapjodbaaejldaa
open Go.RowKit

/-- Are the first m numbers those of words? -/
def inB (gm : Nat → Int) (n m : Nat) : Bool := (List.range m).all fun k => decide (0 ≤ gm k) && decide (gm k < (n : Int))
theorem inB_iff {gm : Nat → Int} {n m : Nat} : inB gm n m = true ↔ ∀ k, k < m → 0 ≤ gm k ∧ gm k < (n : Int) := by
  unfold inB
  rw [List.all_eq_true]
  constructor
  · intro h k hk
    have := h k (List.mem_range.2 hk)
    rw [Bool.and_eq_true, decide_eq_true_eq, decide_eq_true_eq] at this
    exact this
  · intro h k hk
    rw [Bool.and_eq_true, decide_eq_true_eq, decide_eq_true_eq]
    exact h k (List.mem_range.1 hk)
theorem inB_no {gm : Nat → Int} {n m k : Nat} (hk : k < m) (h : gm k < 0 ∨ (n : Int) ≤ gm k) : inB gm n m = false := by
  cases hb : inB gm n m with
  | false => rfl
  | true =>
    have := inB_iff.1 hb k hk
    omega
/-- The words that numbers name. -/
def txW (g : Nat → ByteArray) (gm : Nat → Int) (i : Nat) : List (List UInt8) := (List.range i).map fun k => wd (g (gm k).toNat)
/-- .. in a row. -/
def tx (g : Nat → ByteArray) (gm : Nat → Int) (i : Nat) : List UInt8 := (txW g gm i).flatten
theorem tx_zero (g : Nat → ByteArray) (gm : Nat → Int) : tx g gm 0 = [] := rfl
theorem tx_succ (g : Nat → ByteArray) (gm : Nat → Int) (i : Nat) : tx g gm (i + 1) = tx g gm i ++ wd (g (gm i).toNat) := by
  unfold tx txW; rw [List.range_succ, List.map_append, List.flatten_append]; simp
theorem tx_congr {g : Nat → ByteArray} {gm gm' : Nat → Int} {i : Nat} (h : ∀ k, k < i → gm k = gm' k) : tx g gm i = tx g gm' i := by
  unfold tx txW
  congr 1
  exact List.map_congr_left fun k hk => by rw [h k (List.mem_range.1 hk)]
theorem txW_of {g : Nat → ByteArray} {gm : Nat → Int} {n i : Nat} (h : ∀ k, k < i → 0 ≤ gm k ∧ gm k < (n : Int)) : Cm.Of (cws g n) (txW g gm i) := by
  intro x hx
  obtain ⟨k, hk, rfl⟩ := List.mem_map.1 hx
  have := h k (List.mem_range.1 hk)
  exact mem_cws.2 ⟨_, by omega, rfl⟩
theorem tx_le {g : Nat → ByteArray} {gm : Nat → Int} {n : Nat} (hz : ∀ k, k < n → (g k).size ≤ 12) : ∀ {i : Nat}, (∀ k, k < i → 0 ≤ gm k ∧ gm k < (n : Int)) → (tx g gm i).length ≤ 12 * i
  | 0, _ => by rw [tx_zero]; simp
  | i + 1, h => by
    rw [tx_succ, List.length_append, wd_len]
    have h1 := tx_le hz (i := i) fun k hk => h k (by omega)
    have h2 := h i (by omega)
    have h3 := hz (gm i).toNat (by omega)
    omega
/-- Put: the error and the text. -/
def putE (g : Nat → ByteArray) (n : Nat) (gm : Nat → Int) (m : Nat) : Int := if Cm.cErr (cws g n) ≠ 0 then Cm.cErr (cws g n) else if 200 < m then 2 else if inB gm n m = false then 1 else 0
def putT (g : Nat → ByteArray) (n : Nat) (gm : Nat → Int) (m : Nat) : List UInt8 := if putE g n gm m = 0 then tx g gm m else []
def PutPost (g : Nat → ByteArray) (n : Nat) (gm : Nat → Int) (m : Nat) (w : World) (e : Ending) (w' : World) : Prop :=
  e = .returned (.tuple #[.string ⟨(putT g n gm m).toArray⟩, .int .i64 (putE g n gm m)]) ∧ Below w.heap.size w w'
theorem putE_zero {g : Nat → ByteArray} {n : Nat} {gm : Nat → Int} {m : Nat} : putE g n gm m = 0 ↔ Cm.cErr (cws g n) = 0 ∧ m ≤ 200 ∧ ∀ k, k < m → 0 ≤ gm k ∧ gm k < (n : Int) := by
  unfold putE
  by_cases h1 : Cm.cErr (cws g n) = 0
  · rw [if_neg (by simpa using h1)]
    by_cases h2 : 200 < m
    · rw [if_pos h2]
      constructor
      · intro h; cases h
      · rintro ⟨_, h, _⟩; omega
    · rw [if_neg h2]
      cases h3 : inB gm n m with
      | true => exact ⟨fun _ => ⟨h1, by omega, inB_iff.1 h3⟩, fun _ => rfl⟩
      | false =>
        rw [if_pos rfl]
        constructor
        · intro h; cases h
        · rintro ⟨_, _, h⟩
          rw [inB_iff.2 h] at h3; cases h3
  · rw [if_pos h1]
    exact ⟨fun h => absurd h h1, fun h => absurd h.1 h1⟩
theorem PutPost.ok {g : Nat → ByteArray} {n : Nat} {gm : Nat → Int} {m : Nat} {w w' : World} {t : ByteArray} (he : putE g n gm m = 0) (ht : t = ⟨(tx g gm m).toArray⟩) (hb : Below w.heap.size w w') : PutPost g n gm m w (.returned (.tuple #[.string t, .int .i64 0])) w' := by
  refine ⟨?_, hb⟩
  unfold putT
  rw [he, if_pos rfl, ht]
theorem PutPost.no {g : Nat → ByteArray} {n : Nat} {gm : Nat → Int} {m : Nat} {w w' : World} {E : Int} (he : putE g n gm m = E) (h0 : E ≠ 0) (hb : Below w.heap.size w w') : PutPost g n gm m w (.returned (.tuple #[.string ⟨#[]⟩, .int .i64 E])) w' := by
  refine ⟨?_, hb⟩
  unfold putT
  rw [he, if_neg h0]
/-- Get: what the numbers and the error are. -/
def GetIs (g : Nat → ByteArray) (n : Nat) (s : ByteArray) (m : Nat) (L : Nat → Nat) (er : Int) : Prop :=
  (Cm.cErr (cws g n) ≠ 0 ∧ er = Cm.cErr (cws g n) ∧ m = 0) ∨ (Cm.cErr (cws g n) = 0 ∧ ¬ Cm.PF (cws g n) ∧ er = 3 ∧ m = 0) ∨ (Cm.cErr (cws g n) = 0 ∧ Cm.PF (cws g n) ∧ 4096 < s.size ∧ er = 2 ∧ m = 0) ∨
  (Cm.cErr (cws g n) = 0 ∧ Cm.PF (cws g n) ∧ s.size ≤ 4096 ∧ er = 4 ∧ m = 0 ∧ ∀ x, Cm.Of (cws g n) x → x.flatten ≠ wd s) ∨
  (Cm.cErr (cws g n) = 0 ∧ Cm.PF (cws g n) ∧ s.size ≤ 4096 ∧ er = 0 ∧ (∀ k, k < m → L k < n) ∧ tx g (fun k => (L k : Int)) m = wd s)
def GetPost (g : Nat → ByteArray) (n : Nat) (s : ByteArray) (w : World) (e : Ending) (w' : World) : Prop :=
  (∃ A m c L er, e = .returned (.tuple #[.slice A m c, .int .i64 er]) ∧ m ≤ c ∧ m ≤ 4096 ∧ IRow w' A m (fun k => ((L k : Nat) : Int)) ∧ GetIs g n s m L er) ∧ Below w.heap.size w w'
theorem GetPost.no {g : Nat → ByteArray} {n : Nat} {s : ByteArray} {w w' : World} {E : Int} (h : ∀ L, GetIs g n s 0 L E) (hb : Below w.heap.size w w') : GetPost g n s w (.returned (.tuple #[.slice none 0 0, .int .i64 E])) w' :=
  ⟨⟨none, 0, 0, fun _ => 0, E, rfl, Nat.le_refl _, by omega, IRow.none_ _ _ _, h _⟩, hb⟩
/-- Ways. -/
def wayE (g : Nat → ByteArray) (n : Nat) (s : ByteArray) : Int := if Cm.cErr (cws g n) ≠ 0 then Cm.cErr (cws g n) else if 40 < s.size then 2 else 0
def wayN (g : Nat → ByteArray) (n : Nat) (s : ByteArray) : Nat := if wayE g n s = 0 then Cm.cn (cws g n) (wd s) s.size else 0
def WayPost (g : Nat → ByteArray) (n : Nat) (s : ByteArray) (w : World) (e : Ending) (w' : World) : Prop :=
  e = .returned (.tuple #[.int .i64 (wayN g n s : Int), .int .i64 (wayE g n s)]) ∧ Below w.heap.size w w'
end Go.Proofs.Ytapjodbaaejldaa
