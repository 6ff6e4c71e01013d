
/-
quillkeep.DistMetric: whatever three words: it answers true.
-/
import Derived.Test.YtppaicpjbcjgmaaDists
namespace Go.Proofs.Ytppaicpjbcjgmaa
open Go.RowKit

set_option maxHeartbeats 1000000 in
theorem distMetric_walk (a b c : ByteArray) (_ : a.size ≤ maxLen) (_ : b.size ≤ maxLen) (_ : c.size ≤ maxLen) (w : World) :
    Calls Try.prog 4 #[.string a, .string b, .string c] w fun e w' => e = .returned (.bool true) ∧ Below w.heap.size w w' := by
  obtain ⟨x, hx⟩ : ∃ x, x = dv a b := ⟨_, rfl⟩
  obtain ⟨z, hz⟩ : ∃ z, z = dv b c := ⟨_, rfl⟩
  obtain ⟨y, hy⟩ : ∃ y, y = dv a c := ⟨_, rfl⟩
  obtain ⟨ex, hex⟩ : ∃ ex, ex = de a b := ⟨_, rfl⟩
  obtain ⟨ez, hez⟩ : ∃ ez, ez = de b c := ⟨_, rfl⟩
  obtain ⟨ey, hey⟩ : ∃ ey, ey = de a c := ⟨_, rfl⟩
  have HX := hid hx
  have HZ := hid hz
  have HY := hid hy
  have HEX := hid hex
  have HEZ := hid hez
  have HEY := hid hey
  have hx5 : x ≤ 200 := by rw [hx]; exact dv_le a b
  have hz5 : z ≤ 200 := by rw [hz]; exact dv_le b c
  have HC : Hid ((ex = 2) ∨ (ex = 0 ∧ ey = 2) ∨ (ex = 0 ∧ ey = 0 ∧ ez = 0 ∧ y ≤ x + z ∧ (x = 0 ↔ a = b))) := by
    by_cases hab : a.size ≤ 200 ∧ b.size ≤ 200
    · by_cases hc : c.size ≤ 200
      · refine .inr (.inr ⟨by rw [hex]; exact de_ok hab.1 hab.2, by rw [hey]; exact de_ok hab.1 hc, by rw [hez]; exact de_ok hab.2 hc, ?_, ?_⟩)
        · rw [hx, hy, hz, dv_ok hab.1 hab.2, dv_ok hab.1 hc, dv_ok hab.2 hc]; exact Lev.lv_tri _ _ _
        · rw [hx]; exact dv_self hab.1 hab.2
      · exact .inr (.inl ⟨by rw [hex]; exact de_ok hab.1 hab.2, by rw [hey]; exact de_bad (by omega)⟩)
    · exact .inl (by rw [hex]; exact de_bad hab)
  clear hx hz hy hex hez hey
  go_enter Try.func4, Try.ntmps4
  go_wp2_with fail
  with_reducible refine (dists_ok _).mono ?_
  rintro e w1 ⟨rfl, hb1⟩
  have HB := hid hb1
  clear hb1
  go_wp2_with fail
  with_reducible refine (Of_any a b _).mono ?_
  rintro e w2 ⟨he, hb2⟩
  rw [← HX.out, ← HEX.out] at he
  subst he
  have HB := hid (bl_then HB.out hb2)
  clear hb2
  go_wp2_with fail
  with_reducible refine (Of_any b a _).mono ?_
  rintro e w3 ⟨he, hb2⟩
  rw [dv_comm, de_comm, ← HX.out, ← HEX.out] at he
  subst he
  have HB := hid (bl_then HB.out hb2)
  clear hb2
  go_wp2_with fail
  with_reducible refine (Of_any b c _).mono ?_
  rintro e w4 ⟨he, hb2⟩
  rw [← HZ.out, ← HEZ.out] at he
  subst he
  have HB := hid (bl_then HB.out hb2)
  clear hb2
  go_wp2_with fail
  with_reducible refine (Of_any a c _).mono ?_
  rintro e w5 ⟨he, hb2⟩
  rw [← HY.out, ← HEY.out] at he
  subst he
  have HB := hid (bl_then HB.out hb2)
  clear hb2
  rcases HC.out with rfl | ⟨rfl, rfl⟩ | ⟨rfl, rfl, rfl, hyz, hxe⟩
  · clear HC
    go_wp2
    go_ret
    exact ⟨rfl, HB.out⟩
  · clear HC
    go_wp2
    go_ret
    exact ⟨rfl, HB.out⟩
  · have hy' : (y : Int) ≤ (x : Int) + (z : Int) := by omega
    have hwz : IntKind.i64.wrap ((x : Int) + (z : Int)) = (x : Int) + (z : Int) := IntWalk.i64_in _ (by omega)
    clear HC
    by_cases hab : a = b
    · have h1 : (a.toList == b.toList) = true := by rw [hab]; simp
      have h2 : ((x : Int) == 0) = true := by rw [hxe.2 hab]; rfl
      clear hab hxe hyz
      go_wp2
      go_ret
      exact ⟨rfl, HB.out⟩
    · have h1 : (a.toList == b.toList) = false := beq_eq_false_iff_ne.2 fun e => hab (list_eq.1 e)
      have h2 : ((x : Int) == 0) = false := beq_eq_false_iff_ne.2 (by intro h; exact hab (hxe.1 (by omega)))
      clear hab hxe hyz
      go_wp2
      go_ret
      exact ⟨rfl, HB.out⟩
end Go.Proofs.Ytppaicpjbcjgmaa
