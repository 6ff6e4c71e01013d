
/-
Numbers that name words of a code that is read in one way only: their text tells them; the words that package tree makes.
-/
import Derived.Test.YtapjodbaaejldaaPackPut
import Derived.Test.YtapjodbaaejldaaSeg46
import Derived.Test.YtapjodbaaejldaaSeg51
import Derived.Test.YtapjodbaaejldaaConcatI
namespace Go.Proofs.Ytapjodbaaejldaa
open Go.RowKit

theorem idx_same {g : Nat → ByteArray} {n : Nat} (hu : Cm.UD (cws g n)) (hn : (cws g n).Nodup) {ga gb : Nat → Int} {a b : Nat} (ha : ∀ k, k < a → 0 ≤ ga k ∧ ga k < (n : Int)) (hb : ∀ k, k < b → 0 ≤ gb k ∧ gb k < (n : Int)) (he : tx g ga a = tx g gb b) : a = b ∧ ∀ k, k < a → ga k = gb k := by
  have h1 := hu _ _ (txW_of ha) (txW_of hb) he
  have hab : a = b := by
    have := congrArg List.length h1
    unfold txW at this
    simpa using this
  subst hab
  refine ⟨rfl, fun k hk => ?_⟩
  have h2 : wd (g (ga k).toNat) = wd (g (gb k).toNat) := by
    have := congrArg (fun l => l.getD k []) h1
    unfold txW at this
    simp only [List.getD_eq_getElem?_getD, List.getElem?_map, List.getElem?_range hk, Option.map_some, Option.getD_some] at this
    exact this
  obtain ⟨p1, p2⟩ := ha k hk
  obtain ⟨q1, q2⟩ := hb k hk
  have p3 : (ga k).toNat < n := by omega
  have q3 : (gb k).toNat < n := by omega
  have h3 : (cws g n)[(ga k).toNat]'(by rw [cws_len]; exact p3) = (cws g n)[(gb k).toNat]'(by rw [cws_len]; exact q3) := by
    unfold cws
    simp only [List.getElem_map, List.getElem_range]
    exact h2
  have h5 := List.pairwise_iff_getElem.1 (List.nodup_iff_pairwise_ne.1 hn)
  rcases Nat.lt_trichotomy (ga k).toNat (gb k).toNat with h | h | h
  · exact absurd h3 (h5 _ _ _ _ h)
  · omega
  · exact absurd h3.symm (h5 _ _ _ _ h)
/-- The words of tree.Make. -/
def tmW (g : Nat → Int) (n j : Nat) : ByteArray := mkS (Cm.cw (lensF g n) n j)
theorem tmW_good {g : Nat → Int} {n : Nat} (h : Hm.wErr g n = 0) : Cm.Good (cws (tmW g n) n) ∧ Cm.PF (cws (tmW g n) n) := by
  have h1 := lErr_zero.1 (lens_err h)
  have h2 := made_good h1.1 h1.2 (by rw [lens_ln]; exact (lensF_opt h).fit)
  rw [lens_ln] at h2
  exact h2
theorem tmW_size (g : Nat → Int) (n j : Nat) : (tmW g n j).size = lensF g n j := by
  unfold tmW
  rw [mk_size]
  unfold Cm.cw
  rw [Cm.bits_len]
/-- The numbers from 0 to n - 1 that numbers are turned into. -/
def wi (gm : Nat → Int) (n k : Nat) : Int := gm k % (n : Int)
theorem wi_in (gm : Nat → Int) {n : Nat} (h : 0 < n) (k : Nat) : 0 ≤ wi gm n k ∧ wi gm n k < (n : Int) := ⟨Int.emod_nonneg _ (by omega), Int.emod_lt_of_pos _ (by omega)⟩
theorem rowN'_succ (g : Nat → Int) (m : Nat) : rowN' g (m + 1) = rowN' g m ++ [g m] := by unfold rowN'; rw [List.range_succ, List.map_append]; rfl
theorem OwnI.irow2 {w : World} {base : Nat} {v : Value} {g : Nat → Int} {m : Nat} (h : OwnI w base v (rowN' g m)) : ∃ A c, v = .slice A m c ∧ m ≤ c ∧ IRow w A m g := by
  obtain ⟨A, c, e, hc⟩ := h.cap
  obtain ⟨A', c', e', hr⟩ := h.irow
  rw [e] at e'
  injection e' with e1 e2 e3
  subst e1; subst e3
  rw [rowN'_len] at e hc hr
  exact ⟨A, c, e, hc, hr.congr fun k hk => rowN'_get hk⟩
end Go.Proofs.Ytapjodbaaejldaa
