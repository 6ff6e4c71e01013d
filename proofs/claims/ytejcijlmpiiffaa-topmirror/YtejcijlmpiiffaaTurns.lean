
/-
What turn.Get may answer, and quillkeep.turns: the example.
-/
import Derived.Test.YtejcijlmpiiffaaTurnMore
namespace Go.Proofs.Ytejcijlmpiiffaa
open Go.RowKit

def banS : ByteArray := ⟨#[98, 97, 110, 97, 110, 97]⟩
def nnbS : ByteArray := ⟨#[110, 110, 98, 97, 97, 97]⟩
instance (x : List UInt8) (i j : Nat) : Decidable (Tm.R x i j) := inferInstanceAs (Decidable (_ ∨ _))
def banσ (k : Nat) : Nat := [5, 3, 1, 0, 4, 2].getD k 0
theorem ban_put : Tm.IsPut (lst banS) (lst nnbS) 3 := by
  refine ⟨rfl, ⟨banσ, ⟨⟨?_, ?_⟩, ?_⟩, ?_, fun _ => ⟨by decide, by decide⟩⟩, fun h => absurd h (by decide)⟩
  · have h : ∀ k, k < 6 → banσ k < 6 := by decide +kernel
    exact h
  · have h : ∀ i, i < 6 → ∀ j, j < 6 → banσ i = banσ j → i = j := by decide +kernel
    exact fun i j hi hj => h i hi j hj
  · have h : ∀ j, j < 6 → ∀ i, i < j → Tm.R (lst banS) (banσ i) (banσ j) := by decide +kernel
    exact fun i j hij hj => h j hj i hij
  · have h : ∀ k, k < 6 → (lst nnbS).getD k 0 = Tm.W (lst banS) (banσ k) 5 := by decide +kernel
    exact h
theorem ban_back : gtS nnbS 3 = banS := lst_inj (by rw [gtS_lst, ban_put.back])
/-- What turn.Get answers: an error and nothing, or the word of which t and at are the transform. -/
def GetOut (t : ByteArray) (at_ : Int) (w : World) (e : Ending) (w' : World) : Prop :=
  ((∃ c : Int, (c == 0) = false ∧ (c != 0) = true ∧ e = .returned (.tuple #[.string ByteArray.empty, .int .i64 c])) ∨
    ∃ (S : ByteArray) (n : Nat), at_ = (n : Int) ∧ S.size ≤ 200 ∧ Tm.IsPut (lst S) (lst t) n ∧ e = .returned (.tuple #[.string S, .int .i64 0])) ∧ Below w.heap.size w w'
theorem Put_ban (w : World) : Calls Try.prog 40 #[.string ⟨#[98, 97, 110, 97, 110, 97]⟩] w fun e w' => e = .returned (.tuple #[.string ⟨#[110, 110, 98, 97, 97, 97]⟩, .int .i64 3, .int .i64 0]) ∧ Below w.heap.size w w' := by
  refine (Put_ok banS w (by decide)).mono ?_
  rintro e w1 ⟨t, a, rfl, hp, hb⟩
  obtain ⟨h1, rfl⟩ := hp.unique ban_put
  obtain rfl : t = nnbS := lst_inj h1
  exact ⟨rfl, hb⟩
end Go.Proofs.Ytejcijlmpiiffaa
