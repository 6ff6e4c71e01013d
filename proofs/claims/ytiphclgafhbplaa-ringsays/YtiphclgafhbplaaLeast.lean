/-
The contract of lyndon.Least: the least turn and the first place that it begins at.
-/
import Derived.Test.YtiphclgafhbplaaLead
namespace Go.Proofs.Ytiphclgafhbplaa
open Go.RowKit

/-- The bytes of s as numbers. -/
def fb (s : ByteArray) : Nat → Nat := Lm.bn (wd s)
/-- i is the first place from which the least turn of s begins. -/
structure LeastAt (s : ByteArray) (i : Nat) : Prop where
  first : ∀ j, j < i → Lm.Lt (fb s) s.size i j
  least : ∀ j, j < s.size → ¬ Lm.Lt (fb s) s.size j i
/-- The turn of s from the place k. -/
def turnS (s : ByteArray) (k : Nat) : ByteArray := s.extract k s.size ++ s.extract 0 k
theorem turnS_size {s : ByteArray} {k : Nat} (h : k ≤ s.size) : (turnS s k).size = s.size := by unfold turnS; rw [size_app, size_ext, size_ext]; omega
theorem turnS_at {s : ByteArray} {k x : Nat} (hk : k ≤ s.size) (hx : x < s.size) : fb (turnS s k) x = fb s ((k + x) % s.size) := by
  unfold fb turnS
  rw [wd_app, wd_drop, wd_take]
  by_cases h : x < s.size - k
  · rw [Lm.bn_app_l (by rw [List.length_drop, wd_len]; omega), Lm.bn_drop, Nat.mod_eq_of_lt (by omega)]
  · have e : x = ((wd s).drop k).length + (x - (s.size - k)) := by rw [List.length_drop, wd_len]; omega
    rw [e, Lm.bn_app_r, Lm.bn_take (by omega)]
    congr 1
    rw [← e, show k + x = (x - (s.size - k)) + s.size by omega, Nat.add_mod_right, Nat.mod_eq_of_lt (by omega)]
theorem turnS_zero (s : ByteArray) : turnS s 0 = s := by
  refine wd_inj ?_
  unfold turnS
  rw [wd_app, wd_drop, wd_take]
  simp
/-- The order of two turns. -/
theorem turn_lt {s : ByteArray} {i j : Nat} (hi : i ≤ s.size) (hj : j ≤ s.size) : wd (turnS s i) < wd (turnS s j) ↔ Lm.Lt (fb s) s.size i j := by
  rw [Lm.lt_iff, wd_len, wd_len, turnS_size hi, turnS_size hj]
  constructor
  · rintro ⟨d, h1, h2, h3, h4⟩
    refine ⟨d, h2, fun x hx => ?_, ?_⟩
    · rw [← turnS_at hi (by omega), ← turnS_at hj (by omega)]; exact h3 x hx
    · rcases h4 with h4 | ⟨_, h4⟩
      · omega
      · rw [← turnS_at hi h2, ← turnS_at hj h2]; exact h4
  · rintro ⟨d, h1, h2, h3⟩
    refine ⟨d, by omega, h1, fun x hx => ?_, .inr ⟨h1, ?_⟩⟩
    · have := h2 x hx
      rw [← turnS_at hi (by omega), ← turnS_at hj (by omega)] at this; exact this
    · rw [← turnS_at hi h1, ← turnS_at hj h1] at h3; exact h3
theorem LeastAt.unique {s : ByteArray} {i j : Nat} (hi : i < s.size) (hj : j < s.size) (h : LeastAt s i) (k : LeastAt s j) : i = j := by
  rcases Nat.lt_trichotomy i j with hx | hx | hx
  · exact absurd (k.first i hx) (h.least j hj)
  · exact hx
  · exact absurd (h.first j hx) (k.least i hi)

theorem twice_at {s : ByteArray} {x : Nat} (hx : x < 2 * s.size) : Lm.bn (wd (s ++ s)) x = fb s (x % s.size) := by
  unfold fb
  rw [wd_app]
  by_cases h : x < s.size
  · rw [Lm.bn_app_l (by rw [wd_len]; exact h), Nat.mod_eq_of_lt h]
  · have e : x = (wd s).length + (x - s.size) := by rw [wd_len]; omega
    rw [e, Lm.bn_app_r]
    congr 1
    rw [← e, show x = (x - s.size) + s.size by omega, Nat.add_mod_right, Nat.mod_eq_of_lt (by omega)]
    omega
theorem Dn.congr {f h : Nat → Nat} {n p e : Nat} (k : Lm.Dn f n p e) (hc : ∀ i, i < n → f i = h i) : Lm.Dn h n p e := by
  have h1 := k.pe
  have h2 := k.en
  have h3 := k.p0
  refine ⟨⟨k.p0, k.pe, k.en, k.lyn.congr fun i hi => hc i (by omega), fun i hi => ?_⟩, ?_⟩
  · rw [← hc _ (by omega), ← hc _ (by omega)]; exact k.per i hi
  · rcases k.fin with hf | hf
    · exact .inl hf
    · by_cases he : e = n
      · exact .inl he
      · exact .inr (by rw [← hc _ (by omega), ← hc _ (by omega)]; exact hf)
theorem least_round {s : ByteArray} {i p m : Nat} (hi : i < s.size) (hb : ∀ j, j < i → Lm.Lt (fb s) s.size i j) (hD : Lm.Dn (Lm.bn (wd ((s ++ s).extract i (s.size + s.size)))) ((s ++ s).extract i (s.size + s.size)).size p m) :
    (i + p * (m / p) < s.size → ∀ j, j < i + p * (m / p) → Lm.Lt (fb s) s.size (i + p * (m / p)) j) ∧ (s.size ≤ i + p * (m / p) → LeastAt s i) ∧ i < i + p * (m / p) ∧ p * (m / p) ≤ 2 * s.size := by
  rw [← size_app] at hD
  have hz : ((s ++ s).extract i (s ++ s).size).size = 2 * s.size - i := by rw [size_ext, size_app]; omega
  rw [hz] at hD
  have hD2 : Lm.Dn (fun x => fb s ((i + x) % s.size)) (2 * s.size - i) p m := by
    refine Dn.congr hD fun x hx => ?_
    rw [wd_drop, Lm.bn_drop, twice_at (by omega)]
  obtain ⟨g1, g2⟩ := Lm.least_step hi hb hD2
  obtain ⟨h1, h2, h3, h4, h5, h6⟩ := hD.rest
  have hen := hD.en
  have hp0 := hD.p0
  rw [Nat.mul_comm p]
  exact ⟨g1, fun hn => ⟨hb, g2 hn⟩, by omega, by omega⟩

end Go.Proofs.Ytiphclgafhbplaa
