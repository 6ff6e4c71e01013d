
/-
quillkeep.DiffMetric: whatever three words: it answers true.
-/
import Derived.Test.YtejcijlmpiiffaaDiffs
import Derived.Test.YtejcijlmpiiffaaDists
namespace Go.Proofs.Ytejcijlmpiiffaa
open Go.RowKit

set_option maxHeartbeats 2000000 in
theorem diffMetric_walk (a b c : ByteArray) (_ : a.size ≤ maxLen) (_ : b.size ≤ maxLen) (_ : c.size ≤ maxLen) (w : World) :
    Calls Try.prog 6 #[.string a, .string b, .string c] w fun e w' => e = .returned (.bool true) ∧ Below w.heap.size w w' := by
  obtain ⟨x, hx⟩ : ∃ x, x = fv a b := ⟨_, rfl⟩
  obtain ⟨z, hz⟩ : ∃ z, z = fv b c := ⟨_, rfl⟩
  obtain ⟨y, hy⟩ : ∃ y, y = fv a c := ⟨_, rfl⟩
  obtain ⟨d, hd⟩ : ∃ d, d = dv a b := ⟨_, rfl⟩
  obtain ⟨ex, hex⟩ : ∃ ex, ex = fe a b := ⟨_, rfl⟩
  obtain ⟨ez, hez⟩ : ∃ ez, ez = fe b c := ⟨_, rfl⟩
  obtain ⟨ey, hey⟩ : ∃ ey, ey = fe a c := ⟨_, rfl⟩
  have HX := hid hx
  have HZ := hid hz
  have HY := hid hy
  have HD := hid hd
  have HEX := hid hex
  have HEZ := hid hez
  have HEY := hid hey
  have HED : Hid (ex = de a b) := hex
  have hx5 : x ≤ 400 := by rw [hx]; exact fv_le a b
  have hz5 : z ≤ 400 := by rw [hz]; exact fv_le b c
  have hd5 : d ≤ 200 := by rw [hd]; exact dv_le a b
  have HC : Hid ((ex = 2) ∨ (ex = 0 ∧ ez = 2) ∨ (ex = 0 ∧ ez = 0 ∧ ey = 0 ∧ y ≤ x + z ∧ (x = 0 ↔ a = b) ∧ d ≤ x ∧ x ≤ 2 * d)) := by
    by_cases hab : a.size ≤ 200 ∧ b.size ≤ 200
    · by_cases hc : c.size ≤ 200
      · refine .inr (.inr ⟨by rw [hex]; exact fe_ok hab.1 hab.2, by rw [hez]; exact fe_ok hab.2 hc, by rw [hey]; exact fe_ok hab.1 hc, ?_, ?_, ?_, ?_⟩)
        · rw [hx, hy, hz, fv_ok hab.1 hab.2, fv_ok hab.1 hc, fv_ok hab.2 hc]; exact Df.df_tri _ _ _
        · rw [hx]; exact fv_zero hab.1 hab.2
        · rw [hx, hd, fv_ok hab.1 hab.2, dv_ok hab.1 hab.2]; exact Df.lv_df _ _
        · rw [hx, hd, fv_ok hab.1 hab.2, dv_ok hab.1 hab.2]; exact Df.df_lv _ _
      · exact .inr (.inl ⟨by rw [hex]; exact fe_ok hab.1 hab.2, by rw [hez]; exact fe_bad (by omega)⟩)
    · exact .inl (by rw [hex]; exact fe_bad hab)
  clear hx hz hy hd hex hez hey
  go_enter Try.func6, Try.ntmps6
  go_wp2_with fail
  with_reducible refine (diffs_ok _).mono ?_
  rintro e w1 ⟨rfl, hb1⟩
  have HB := hid hb1
  clear hb1
  go_wp2_with fail
  with_reducible refine (dists_ok _).mono ?_
  rintro e w2 ⟨rfl, hb2⟩
  have HB := hid (bl_then HB.out hb2)
  clear hb2
  go_wp2_with fail
  with_reducible refine (Cost_any a b _).mono ?_
  rintro e w3 ⟨he, hb2⟩
  rw [← HX.out, ← HEX.out] at he
  subst he
  have HB := hid (bl_then HB.out hb2)
  clear hb2
  go_wp2_with fail
  with_reducible refine (Cost_any b a _).mono ?_
  rintro e w4 ⟨he, hb2⟩
  rw [fv_comm, fe_comm, ← HX.out, ← HEX.out] at he
  subst he
  have HB := hid (bl_then HB.out hb2)
  clear hb2
  go_wp2_with fail
  with_reducible refine (Cost_any b c _).mono ?_
  rintro e w5 ⟨he, hb2⟩
  rw [← HZ.out, ← HEZ.out] at he
  subst he
  have HB := hid (bl_then HB.out hb2)
  clear hb2
  go_wp2_with fail
  with_reducible refine (Cost_any a c _).mono ?_
  rintro e w6 ⟨he, hb2⟩
  rw [← HY.out, ← HEY.out] at he
  subst he
  have HB := hid (bl_then HB.out hb2)
  clear hb2
  go_wp2_with fail
  with_reducible refine (Of_any a b _).mono ?_
  rintro e w7 ⟨he, hb2⟩
  rw [← HD.out, ← HED.out] at he
  subst he
  have HB := hid (bl_then HB.out hb2)
  clear hb2
  rcases HC.out with rfl | ⟨rfl, rfl⟩ | ⟨rfl, rfl, rfl, hyz, hxe, hdx, hxd⟩
  · clear HC
    go_wp2
    go_ret
    exact ⟨rfl, HB.out⟩
  · clear HC
    go_wp2
    go_ret
    exact ⟨rfl, HB.out⟩
  · have hy' : (y : Int) ≤ (x : Int) + (z : Int) := by omega
    have hdx' : (d : Int) ≤ (x : Int) := by omega
    have hxd' : (x : Int) ≤ 2 * (d : Int) := by omega
    have hwz : IntKind.i64.wrap ((x : Int) + (z : Int)) = (x : Int) + (z : Int) := IntWalk.i64_in _ (by omega)
    have hwd : IntKind.i64.wrap (2 * (d : Int)) = 2 * (d : Int) := IntWalk.i64_in _ (by omega)
    clear HC
    go_wp2_with fail
    with_reducible refine (good_ok _ 2 2 _ (by decide) (two_zeros _ _)).mono ?_
    rintro e w8 ⟨rfl, rfl⟩
    have HB8 := hid (HB.out.alloc HB.out.size (.cells #[.int .i64 0, .int .i64 0] 23))
    by_cases hab : a = b
    · have h1 : (a.toList == b.toList) = true := by rw [hab]; simp
      have h2 : ((x : Int) == 0) = true := by rw [hxe.2 hab]; rfl
      clear hab hxe hyz
      go_wp2
      go_ret
      exact ⟨rfl, HB8.out⟩
    · have h1 : (a.toList == b.toList) = false := beq_eq_false_iff_ne.2 fun e => hab (list_eq.1 e)
      have h2 : ((x : Int) == 0) = false := beq_eq_false_iff_ne.2 (by intro h; exact hab (hxe.1 (by omega)))
      clear hab hxe hyz
      go_wp2
      go_ret
      exact ⟨rfl, HB8.out⟩
end Go.Proofs.Ytejcijlmpiiffaa
