
/-
The contract of lyndon.Least: the least turn and the first place that it begins at.
-/
import Derived.Test.YtapjodbaaejldaaLead
namespace Go.Proofs.Ytapjodbaaejldaa
open Go.RowKit

/-- The bytes of s as numbers. -/
def fb (s : ByteArray) : Nat → Nat := Lm.bn (wd s)
/-- i is the first place from which the least turn of s begins. -/
structure LeastAt (s : ByteArray) (i : Nat) : Prop where
  first : ∀ j, j < i → Lm.Lt (fb s) s.size i j
  least : ∀ j, j < s.size → ¬ Lm.Lt (fb s) s.size j i
/-- The turn of s from the place k. -/
def turnS (s : ByteArray) (k : Nat) : ByteArray := s.extract k s.size ++ s.extract 0 k
theorem turnS_size {s : ByteArray} {k : Nat} (h : k ≤ s.size) : (turnS s k).size = s.size := by unfold turnS; rw [size_app, size_ext, size_ext]; omega
theorem turnS_at {s : ByteArray} {k x : Nat} (hk : k ≤ s.size) (hx : x < s.size) : fb (turnS s k) x = fb s ((k + x) % s.size) := by
  unfold fb turnS
  rw [wd_app, wd_drop, wd_take]
  by_cases h : x < s.size - k
  · rw [Lm.bn_app_l (by rw [List.length_drop, wd_len]; omega), Lm.bn_drop, Nat.mod_eq_of_lt (by omega)]
  · have e : x = ((wd s).drop k).length + (x - (s.size - k)) := by rw [List.length_drop, wd_len]; omega
    rw [e, Lm.bn_app_r, Lm.bn_take (by omega)]
    congr 1
    rw [← e, show k + x = (x - (s.size - k)) + s.size by omega, Nat.add_mod_right, Nat.mod_eq_of_lt (by omega)]
theorem turnS_zero (s : ByteArray) : turnS s 0 = s := by
  refine wd_inj ?_
  unfold turnS
  rw [wd_app, wd_drop, wd_take]
  simp
/-- The order of two turns. -/
theorem turn_lt {s : ByteArray} {i j : Nat} (hi : i ≤ s.size) (hj : j ≤ s.size) : wd (turnS s i) < wd (turnS s j) ↔ Lm.Lt (fb s) s.size i j := by
  rw [Lm.lt_iff, wd_len, wd_len, turnS_size hi, turnS_size hj]
  constructor
  · rintro ⟨d, h1, h2, h3, h4⟩
    refine ⟨d, h2, fun x hx => ?_, ?_⟩
    · rw [← turnS_at hi (by omega), ← turnS_at hj (by omega)]; exact h3 x hx
    · rcases h4 with h4 | ⟨_, h4⟩
      · omega
      · rw [← turnS_at hi h2, ← turnS_at hj h2]; exact h4
  · rintro ⟨d, h1, h2, h3⟩
    refine ⟨d, by omega, h1, fun x hx => ?_, .inr ⟨h1, ?_⟩⟩
    · have := h2 x hx
      rw [← turnS_at hi (by omega), ← turnS_at hj (by omega)] at this; exact this
    · rw [← turnS_at hi h1, ← turnS_at hj h1] at h3; exact h3
theorem LeastAt.unique {s : ByteArray} {i j : Nat} (hi : i < s.size) (hj : j < s.size) (h : LeastAt s i) (k : LeastAt s j) : i = j := by
  rcases Nat.lt_trichotomy i j with hx | hx | hx
  · exact absurd (k.first i hx) (h.least j hj)
  · exact hx
  · exact absurd (h.first j hx) (k.least i hi)

theorem twice_at {s : ByteArray} {x : Nat} (hx : x < 2 * s.size) : Lm.bn (wd (s ++ s)) x = fb s (x % s.size) := by
  unfold fb
  rw [wd_app]
  by_cases h : x < s.size
  · rw [Lm.bn_app_l (by rw [wd_len]; exact h), Nat.mod_eq_of_lt h]
  · have e : x = (wd s).length + (x - s.size) := by rw [wd_len]; omega
    rw [e, Lm.bn_app_r]
    congr 1
    rw [← e, show x = (x - s.size) + s.size by omega, Nat.add_mod_right, Nat.mod_eq_of_lt (by omega)]
    omega
theorem Dn.congr {f h : Nat → Nat} {n p e : Nat} (k : Lm.Dn f n p e) (hc : ∀ i, i < n → f i = h i) : Lm.Dn h n p e := by
  have h1 := k.pe
  have h2 := k.en
  have h3 := k.p0
  refine ⟨⟨k.p0, k.pe, k.en, k.lyn.congr fun i hi => hc i (by omega), fun i hi => ?_⟩, ?_⟩
  · rw [← hc _ (by omega), ← hc _ (by omega)]; exact k.per i hi
  · rcases k.fin with hf | hf
    · exact .inl hf
    · by_cases he : e = n
      · exact .inl he
      · exact .inr (by rw [← hc _ (by omega), ← hc _ (by omega)]; exact hf)
theorem least_round {s : ByteArray} {i p m : Nat} (hi : i < s.size) (hb : ∀ j, j < i → Lm.Lt (fb s) s.size i j) (hD : Lm.Dn (Lm.bn (wd ((s ++ s).extract i (s.size + s.size)))) ((s ++ s).extract i (s.size + s.size)).size p m) :
    (i + p * (m / p) < s.size → ∀ j, j < i + p * (m / p) → Lm.Lt (fb s) s.size (i + p * (m / p)) j) ∧ (s.size ≤ i + p * (m / p) → LeastAt s i) ∧ i < i + p * (m / p) ∧ p * (m / p) ≤ 2 * s.size := by
  rw [← size_app] at hD
  have hz : ((s ++ s).extract i (s ++ s).size).size = 2 * s.size - i := by rw [size_ext, size_app]; omega
  rw [hz] at hD
  have hD2 : Lm.Dn (fun x => fb s ((i + x) % s.size)) (2 * s.size - i) p m := by
    refine Dn.congr hD fun x hx => ?_
    rw [wd_drop, Lm.bn_drop, twice_at (by omega)]
  obtain ⟨g1, g2⟩ := Lm.least_step hi hb hD2
  obtain ⟨h1, h2, h3, h4, h5, h6⟩ := hD.rest
  have hen := hD.en
  have hp0 := hD.p0
  rw [Nat.mul_comm p]
  exact ⟨g1, fun hn => ⟨hb, g2 hn⟩, by omega, by omega⟩

set_option maxHeartbeats 400000 in
theorem leastAt_any (s : ByteArray) (w : World) (hs : s.size ≤ 200) :
    Calls Try.prog 85 #[.string s] w fun e w' => (∃ i : Nat, e = .returned (.int .i64 (i : Int)) ∧ i ≤ s.size ∧ (0 < s.size → i < s.size ∧ LeastAt s i) ∧ (s.size = 0 → i = 0)) ∧ Drew w w' := by
  go_enter Try.func85, Try.ntmps85
  go_wp2
  go_loopw [4, 5] (fun x y wr => ∃ a i : Nat, i ≤ 1000 ∧ a ≤ s.size ∧ x = .int .i64 (a : Int) ∧ y = .int .i64 (i : Int) ∧ Hid (i < s.size → ∀ j, j < i → Lm.Lt (fb s) s.size i j) ∧ Hid (s.size ≤ i → 0 < s.size → a < s.size ∧ LeastAt s a) ∧ Hid (s.size = 0 → a = 0) ∧ Drew w wr) (fun _ y _ => s.size - (intOf y).toNat)
  case atStart => exact ⟨0, 0, by omega, by omega, rfl, rfl, hid (fun _ j hj => by omega), hid (fun h1 h2 => by omega), hid (fun _ => rfl), Drew.refl _⟩
  case round =>
    obtain ⟨a, i, hi, ha, rfl, rfl, H1, H2, H3, hd⟩ := hrel
    by_cases hlt : i < s.size
    · have hex : ((s ++ s).extract i (s.size + s.size)).size = 2 * s.size - i := by rw [size_ext, size_app]; omega
      have hle : (i : Int) ≤ ((s ++ s).size : Int) := by rw [size_app]; omega
      go_wp2_with fail
      with_reducible refine (lead_any _ _ (by omega) (by omega)).mono ?_
      rintro e w1 ⟨⟨p, m, hD, rfl⟩, hd1⟩
      have HR := hid (least_round hlt (H1.out hlt) hD)
      obtain ⟨t, ht⟩ : ∃ t, t = m / p := ⟨_, rfl⟩
      rw [← ht] at HR ⊢
      obtain ⟨q, hq⟩ : ∃ q, q = p * t := ⟨_, rfl⟩
      have hpt : (p : Int) * (t : Int) = (q : Int) := by rw [hq]; simp
      rw [← hq] at HR
      have hq1 := HR.out.2.2.1
      have hq2 := HR.out.2.2.2
      have hd2 := hd.trans hd1
      clear hD ht hq hd hd1 hex
      have hwq : IntKind.i64.wrap (q : Int) = (q : Int) := IntWalk.i64_in _ (by omega)
      go_wp2
      go_roundw
      case measure => simp [intOf]; omega
      case rel => exact ⟨i, i + q, by omega, by omega, rfl, by go_num, hid HR.out.1, hid (fun h _ => ⟨hlt, HR.out.2.1 h⟩), hid (fun h => by omega), hd2⟩
    · have hdl : decide ((i : Int) < (s.size : Int)) = false := decide_eq_false (by omega)
      go_wp2
      go_ret
      exact ⟨⟨a, rfl, ha, H2.out (by omega), H3.out⟩, hd⟩
theorem ret_si {a a' : ByteArray} {x y : Int} (h : a = a') : Ending.returned (.tuple #[.string a, .int .i64 x, .int .i64 y]) = .returned (.tuple #[.string a', .int .i64 x, .int .i64 y]) := by rw [h]
theorem Least_ok (s : ByteArray) (w : World) (hs : s.size ≤ 200) (h0 : 0 < s.size) :
    Calls Try.prog 45 #[.string s] w fun e w' => (∃ i : Nat, e = .returned (.tuple #[.string (turnS s i), .int .i64 (i : Int), .int .i64 0]) ∧ i < s.size ∧ LeastAt s i) ∧ Drew w w' := by
  go_enter Try.func45, Try.ntmps45
  go_wp2_with fail
  with_reducible refine (check_ok s _ hs).mono ?_
  rintro e w1 ⟨rfl, rfl⟩
  go_wp2_with fail
  with_reducible refine (leastAt_any s _ hs).mono ?_
  rintro e w1 ⟨⟨i, rfl, hi, h1, _⟩, hd⟩
  have H1 := hid (h1 h0)
  clear h1
  have hi' : (i : Int) ≤ (s.size : Int) := by omega
  go_wp2
  go_quiet (fail)
  go_wp2
  go_ret3
  exact ⟨⟨i, rfl, H1.out⟩, hd.more _⟩
theorem Least_empty (s : ByteArray) (w : World) (h0 : s.size = 0) :
    Calls Try.prog 45 #[.string s] w fun e w' => e = .returned (.tuple #[.string ByteArray.empty, .int .i64 0, .int .i64 0]) ∧ Drew w w' := by
  go_enter Try.func45, Try.ntmps45
  go_wp2_with fail
  with_reducible refine (check_ok s _ (by omega)).mono ?_
  rintro e w1 ⟨rfl, rfl⟩
  go_wp2_with fail
  with_reducible refine (leastAt_any s _ (by omega)).mono ?_
  rintro e w1 ⟨⟨i, rfl, hi, _, h1⟩, hd⟩
  obtain rfl : i = 0 := by omega
  have hi' : (0 : Int) ≤ (s.size : Int) := by omega
  have he := empty_of h0
  subst he
  clear h0 h1
  go_wp2
  go_quiet (fail)
  go_wp2
  go_ret3
  exact ⟨ret_si (by rfl), hd.more _⟩
theorem Least_large (s : ByteArray) (w : World) (hs : 200 < s.size) : Calls Try.prog 45 #[.string s] w fun e w' => e = .returned (.tuple #[.string ByteArray.empty, .int .i64 0, .int .i64 2]) ∧ w = w' := by
  go_enter Try.func45, Try.ntmps45
  go_wp2_with fail
  with_reducible refine (check_large s _ hs).mono ?_
  rintro e w1 ⟨rfl, rfl⟩
  go_wp2
  go_ret3
  exact ⟨rfl, rfl⟩
end Go.Proofs.Ytapjodbaaejldaa
