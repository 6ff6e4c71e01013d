
/-
The contract of turn.Count.
-/
import Derived.Test.YtejcijlmpiiffaaTGet
namespace Go.Proofs.Ytejcijlmpiiffaa
open Go.RowKit

namespace Tm
/-- LOW and HIGH behind d bytes of the search. -/
def cs (t p : List UInt8) : Nat → Nat × Nat
  | 0 => (0, t.length)
  | d + 1 => if (cs t p d).1 < (cs t p d).2 then (sp t (Lm.bn p (p.length - 1 - d)) (cs t p d).1, sp t (Lm.bn p (p.length - 1 - d)) (cs t p d).2) else cs t p d
theorem cs_le (t p : List UInt8) : ∀ d, (cs t p d).1 ≤ (cs t p d).2 ∧ (cs t p d).2 ≤ t.length
  | 0 => ⟨Nat.zero_le _, Nat.le_refl _⟩
  | d + 1 => by
    have ih := cs_le t p d
    unfold cs
    split
    · exact ⟨sp_mono t _ ih.1 ih.2, sp_le t _ _ ih.2⟩
    · exact ih
theorem cs_stop (t p : List UInt8) {d : Nat} (h : ¬ (cs t p d).1 < (cs t p d).2) : ∀ e, cs t p (d + e) = cs t p d
  | 0 => rfl
  | e + 1 => by
    have ih := cs_stop t p h e
    show (if (cs t p (d + e)).1 < (cs t p (d + e)).2 then _ else cs t p (d + e)) = _
    rw [ih, if_neg h]
def csn (t p : List UInt8) : Nat := (cs t p p.length).2 - (cs t p p.length).1
end Tm
end Go.Proofs.Ytejcijlmpiiffaa
