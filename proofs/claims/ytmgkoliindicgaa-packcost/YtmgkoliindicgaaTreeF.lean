
/-
The lengths that tree.Lens hands back are best lengths.
-/
import Derived.Test.YtmgkoliindicgaaBrMath
namespace Go.Proofs.Ytmgkoliindicgaa
theorem lensF_opt {g : Nat → Int} {n : Nat} (h : Hm.wErr g n = 0) : Hm.Opt (Cm.ln g) (lensF g n) n := by
  have hn := (Hm.wErr_zero.1 h).1
  by_cases h1 : n = 1
  · subst h1
    have e : lensF g 1 = fun _ => 1 := by funext k; unfold lensF; rw [if_pos rfl]
    rw [e]
    exact Hm.Opt.of_one rfl
  · have e : lensF g n = Hm.hdep (Cm.ln g) n := by funext k; unfold lensF; rw [if_neg h1]
    rw [e]
    by_cases h2 : 2 ≤ n
    · exact Hm.hdep_opt h2 hn
    · obtain rfl : n = 0 := by omega
      exact Hm.Opt.of_none
end Go.Proofs.Ytmgkoliindicgaa
