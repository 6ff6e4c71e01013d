/-
Several texts of this proof, one behind the other.
-/
import Derived.Test.YtapjodbaaejldaaSeg29
import Derived.Test.YtapjodbaaejldaaRefLens
import Derived.Test.YtapjodbaaejldaaSortW
import Derived.Test.YtapjodbaaejldaaMathAll

/-
What package code's functions are to leave: words for the contracts; the values of quillkeep's small examples.
-/
namespace Go.Proofs.Ytapjodbaaejldaa
open Go.RowKit

/-- Front and Sole: P is what is asked of the code. -/
def AskPost (P : List (List UInt8) → Prop) (W : List (List UInt8)) (w : World) (e : Ending) (w' : World) : Prop :=
  (∃ b : Bool, e = .returned (.tuple #[.bool b, .int .i64 (Cm.cErr W)]) ∧ (Cm.cErr W = 0 → (b = true ↔ P W)) ∧ (Cm.cErr W ≠ 0 → b = false)) ∧ Below w.heap.size w w'
/-- The error of Make. -/
def mErr (g : Nat → Int) (n : Nat) : Int := if Cm.lErr g n ≠ 0 then Cm.lErr g n else if 4096 < Cm.tot (Cm.ln g) n then 4 else 0
def MakePost (g : Nat → Int) (n : Nat) (w : World) (e : Ending) (w' : World) : Prop :=
  (∃ A m c, e = .returned (.tuple #[.slice A m c, .int .i64 (mErr g n)]) ∧ m ≤ c ∧ SRow w' A m (fun j => mkS (Cm.cw (Cm.ln g) n j)) ∧ (mErr g n ≠ 0 → m = 0) ∧ (mErr g n = 0 → m = n)) ∧ Below w.heap.size w w'
theorem lErr_zero {g : Nat → Int} {n : Nat} : Cm.lErr g n = 0 ↔ n ≤ 12 ∧ ∀ j, j < n → 1 ≤ g j ∧ g j ≤ 12 := by
  unfold Cm.lErr
  by_cases h : 12 < n
  · rw [if_pos h]
    constructor
    · intro h1; cases h1
    · rintro ⟨h1, _⟩; omega
  · rw [if_neg h, Cm.lnE_zero]
    exact ⟨fun h1 => ⟨by omega, h1⟩, fun h1 => h1.2⟩
theorem SRow.lits (w : World) (l : List ByteArray) (t : TypeId) (n N : Nat) (hN : w.heap.size = N) (hn : n = l.length) : SRow (w.alloc (.cells (l.map Value.string).toArray t)) (some ⟨N, 0, none⟩) n (fun k => l.getD k ByteArray.empty) := by
  subst hN; subst hn
  intro k hk
  refine ⟨w.heap.size, 0, rfl, by simp, ?_⟩
  rw [Nat.zero_add]
  simp [hk, List.getD_eq_getElem?_getD]
/-- The three codes of quillkeep.codes. -/
def exA : List ByteArray := [⟨#[48]⟩, ⟨#[49, 48]⟩, ⟨#[49, 49]⟩]
def exB : List ByteArray := [⟨#[48]⟩, ⟨#[48, 49]⟩]
def exC : List ByteArray := [⟨#[48]⟩, ⟨#[49]⟩, ⟨#[48, 49]⟩]
def exG (l : List ByteArray) (k : Nat) : ByteArray := l.getD k ByteArray.empty
theorem exA_w : cws (exG exA) 3 = [[48], [49, 48], [49, 49]] := by decide +kernel
theorem exB_w : cws (exG exB) 2 = [[48], [48, 49]] := by decide +kernel
theorem exC_w : cws (exG exC) 3 = [[48], [49], [48, 49]] := by decide +kernel
theorem exA_pf : Cm.PF [[48], [49, 48], [49, 49]] := by unfold Cm.PF; decide +kernel
theorem exB_ud : Cm.UD [[48], [48, 49]] := by
  rw [Cm.ud_iff (by decide +kernel)]
  rintro ⟨w, v, o, h1, h2, h3, h4, h5⟩
  have ho : o = [49] := by
    simp only [List.mem_cons, List.not_mem_nil, or_false] at h1 h2
    rcases h1 with rfl | rfl <;> rcases h2 with rfl | rfl <;> simp at h4 <;> first | exact absurd h4 h3 | exact h4.symm | exact h4 | (exact absurd h4 (by simp))
  subst ho
  refine Cm.no_tw (S := fun o => o = [49]) (by decide) (fun o o' ho hs => ?_) rfl h5
  subst ho
  obtain ⟨u, hu, hs⟩ := hs
  simp only [List.mem_cons, List.not_mem_nil, or_false] at hu
  rcases hu with rfl | rfl <;> rcases hs with hs | hs <;> simp at hs
theorem exC_no : ¬ Cm.UD [[48], [49], [48, 49]] := by
  intro h
  have := h [[48], [49]] [[48, 49]] (by unfold Cm.Of; decide) (by unfold Cm.Of; decide) rfl
  cases this
end Go.Proofs.Ytapjodbaaejldaa


/-
What package tree's functions are to leave: words for the contracts.
-/
namespace Go.Proofs.Ytapjodbaaejldaa
open Go.RowKit

def LensPost (g : Nat → Int) (n : Nat) (w : World) (e : Ending) (w' : World) : Prop :=
  (∃ A m c, e = .returned (.tuple #[.slice A m c, .int .i64 (Hm.wErr g n)]) ∧ m ≤ c ∧ IRow w' A m (fun k => ((lensF g n k : Nat) : Int)) ∧ (Hm.wErr g n ≠ 0 → m = 0) ∧ (Hm.wErr g n = 0 → m = n)) ∧ Below w.heap.size w w'
def TMakePost (g : Nat → Int) (n : Nat) (w : World) (e : Ending) (w' : World) : Prop :=
  (∃ A m c, e = .returned (.tuple #[.slice A m c, .int .i64 (Hm.wErr g n)]) ∧ m ≤ c ∧ SRow w' A m (fun j => mkS (Cm.cw (lensF g n) n j)) ∧ (Hm.wErr g n ≠ 0 → m = 0) ∧ (Hm.wErr g n = 0 → m = n)) ∧ Below w.heap.size w w'
/-- Of the lengths that are handed back. -/
theorem lens_ln (g : Nat → Int) (n : Nat) : Cm.ln (fun k => ((lensF g n k : Nat) : Int)) = lensF g n := by
  funext k
  show ((lensF g n k : Nat) : Int).toNat = _
  exact Int.toNat_natCast _
theorem lens_err {g : Nat → Int} {n : Nat} (h : Hm.wErr g n = 0) : Cm.lErr (fun k => ((lensF g n k : Nat) : Int)) n = 0 := by
  have ho := lensF_opt h
  refine lErr_zero.2 ⟨(Hm.wErr_zero.1 h).1, fun j hj => ?_⟩
  have := ho.len j hj
  omega
theorem lens_cost {g : Nat → Int} {n : Nat} (h : Hm.wErr g n = 0) : Hm.tErr g n (fun k => ((lensF g n k : Nat) : Int)) n = 0 ∧ Hm.tCost g n (fun k => ((lensF g n k : Nat) : Int)) n = ((Hm.ctot (Cm.ln g) (lensF g n) n : Nat) : Int) := by
  have h1 := Hm.tErr_zero.2 ⟨h, lens_err h, rfl⟩
  refine ⟨h1, ?_⟩
  unfold Hm.tCost
  rw [if_pos h1, lens_ln]
end Go.Proofs.Ytapjodbaaejldaa

