
/-
Near in one contract: what it refuses, what it answers.
-/
import Derived.Test.YtppaicpjbcjgmaaDistPub
namespace Go.Proofs.Ytppaicpjbcjgmaa
open Go.RowKit

/-- What Near answers, and with which error. -/
def NearIs (s : ByteArray) (g : Nat → ByteArray) (most : Int) (n : Nat) (L : List Nat) (x : Int) : Prop := (NearBad s n g ∧ L = [] ∧ x = 2) ∨ (¬ NearBad s n g ∧ L = nr s g most n ∧ x = 0)
theorem Near_any {A : Option Addr} {n c : Nat} {g : Nat → ByteArray} (s : ByteArray) (most : Int) (w : World) (h : SRow w A n g) :
    Calls Try.prog 11 #[.string s, .slice A n c, .int .i64 most] w fun e w' => ∃ (B : Option Addr) (q : Nat) (L : List Nat) (x : Int), e = .returned (.tuple #[.slice B L.length q, .int .i64 x]) ∧ NearIs s g most n L x ∧ IRow w' B L.length (fun k => (L.getD k 0 : Nat)) ∧ Below w.heap.size w w' := by
  by_cases hb : NearBad s n g
  · refine (Near_large s most w h hb).mono ?_
    rintro e w1 ⟨rfl, rfl⟩
    exact ⟨none, 0, [], 2, rfl, .inl ⟨hb, rfl, rfl⟩, IRow.none_ _ _ _, Below.refl _ _⟩
  · obtain ⟨h1, h2, h3⟩ := near_bad_or hb
    refine (Near_ok s most w h h1 h2 h3).mono ?_
    rintro e w1 ⟨B, q, rfl, hr, hbl⟩
    exact ⟨B, q, _, 0, rfl, .inr ⟨hb, rfl, rfl⟩, hr, hbl⟩
theorem NearIs.len {s : ByteArray} {g : Nat → ByteArray} {most : Int} {n : Nat} {L : List Nat} {x : Int} (h : NearIs s g most n L x) : L.length ≤ 200 := by
  rcases h with ⟨_, rfl, _⟩ | ⟨hb, rfl, _⟩
  · simp
  · have := nr_len s g most n
    have := (near_bad_or hb).2.1
    omega
end Go.Proofs.Ytppaicpjbcjgmaa
