
/-
quillkeep.dists: the document's own example; and small facts that the laws on package dist share.
-/
import Derived.Test.YtejcijlmpiiffaaDistPub
import Derived.Test.YtejcijlmpiiffaaKeep
import Derived.Test.YtejcijlmpiiffaaApp
namespace Go.Proofs.Ytejcijlmpiiffaa
open Go.RowKit

theorem ex_kitten : Lev.lv (lst ⟨#[107, 105, 116, 116, 101, 110]⟩) (lst ⟨#[115, 105, 116, 116, 105, 110, 103]⟩) = 3 := by decide +kernel
theorem dists_ok (w : World) : Calls Try.prog 17 #[] w fun e w' => e = .returned (.bool true) ∧ Below w.heap.size w w' := by
  go_enter Try.func17, Try.ntmps17
  go_wp2_with fail
  with_reducible refine (Of_ok ⟨#[107, 105, 116, 116, 101, 110]⟩ ⟨#[115, 105, 116, 116, 105, 110, 103]⟩ _ (by decide) (by decide)).mono ?_
  rintro e w1 ⟨rfl, hb1⟩
  rw [ex_kitten]
  go_wp2
  go_ret
  exact ⟨rfl, hb1⟩
/-- What Of answers, and with which error. -/
def dv (a b : ByteArray) : Nat := if a.size ≤ 200 ∧ b.size ≤ 200 then Lev.lv (lst a) (lst b) else 0
def de (a b : ByteArray) : Int := if a.size ≤ 200 ∧ b.size ≤ 200 then 0 else 2
theorem Of_any (a b : ByteArray) (w : World) :
    Calls Try.prog 18 #[.string a, .string b] w fun e w' => e = .returned (.tuple #[.int .i64 (dv a b : Nat), .int .i64 (de a b)]) ∧ Below w.heap.size w w' := by
  unfold dv de
  by_cases h : a.size ≤ 200 ∧ b.size ≤ 200
  · rw [if_pos h, if_pos h]
    exact Of_ok a b w h.1 h.2
  · rw [if_neg h, if_neg h]
    refine (Of_large a b w (by omega)).mono ?_
    rintro e w1 ⟨rfl, rfl⟩
    exact ⟨rfl, Below.refl _ _⟩
theorem dv_ok {a b : ByteArray} (ha : a.size ≤ 200) (hb : b.size ≤ 200) : dv a b = Lev.lv (lst a) (lst b) := if_pos ⟨ha, hb⟩
theorem de_ok {a b : ByteArray} (ha : a.size ≤ 200) (hb : b.size ≤ 200) : de a b = 0 := if_pos ⟨ha, hb⟩
theorem dv_bad {a b : ByteArray} (h : ¬ (a.size ≤ 200 ∧ b.size ≤ 200)) : dv a b = 0 := if_neg h
theorem de_bad {a b : ByteArray} (h : ¬ (a.size ≤ 200 ∧ b.size ≤ 200)) : de a b = 2 := if_neg h
theorem dv_comm (a b : ByteArray) : dv a b = dv b a := by
  unfold dv
  by_cases h : a.size ≤ 200 ∧ b.size ≤ 200
  · rw [if_pos h, if_pos ⟨h.2, h.1⟩, Lev.lv_comm]
  · rw [if_neg h, if_neg (by omega)]
theorem de_comm (a b : ByteArray) : de a b = de b a := by
  unfold de
  by_cases h : a.size ≤ 200 ∧ b.size ≤ 200
  · rw [if_pos h, if_pos ⟨h.2, h.1⟩]
  · rw [if_neg h, if_neg (by omega)]
theorem dv_le (a b : ByteArray) : dv a b ≤ 200 := by
  unfold dv
  split
  · rename_i h
    have := Lev.lv_max (lst a) (lst b)
    rw [lst_len, lst_len] at this
    omega
  · omega
theorem dv_self {a b : ByteArray} (ha : a.size ≤ 200) (hb : b.size ≤ 200) : dv a b = 0 ↔ a = b := by
  rw [dv_ok ha hb, Lev.lv_zero]
  exact ⟨lst_inj_, fun h => by rw [h]⟩
end Go.Proofs.Ytejcijlmpiiffaa
