
/-
quillkeep.FrontOne: whatever l: it answers true.
-/
import Derived.Test.YthebjelkmopboaaFrHelp
namespace Go.Proofs.Ythebjelkmopboaa
open Go.RowKit

set_option maxHeartbeats 1000000 in
theorem frontOne_walk (A : Option Addr) (n c : Nat) (g : Nat → Int) (w : World) (hr : IRow w A n g) (_hc : n ≤ c) (hn8 : n * 8 ≤ 140737488351232) :
    Calls Try.prog 5 #[.slice A n c] w fun e w' => e = .returned (.bool true) ∧ Below w.heap.size w w' := by
  have hee : ((ByteArray.empty).toList == (⟨#[]⟩ : ByteArray).toList) = true := beq_self_eq_true _
  have HR := hid hr
  clear hr
  by_cases hn : n ≤ 200
  · by_cases hp : Places g n
    · obtain ⟨t, ht⟩ : ∃ t, t = mkS (Fm.getL (nl g n)) := ⟨_, rfl⟩
      have hz : t.size = n := by rw [ht]; exact mk_get_size g n
      have HG : Hid (∀ k, k < n → (((Fm.putL (lst t)).getD k 0 : Nat) : Int) = g k) := by
        intro k hk
        rw [ht, nl_back g hp, nl_at hk]
        have := hp k hk
        omega
      have HT := hid ht
      have HP := hid hp
      have HZ := hid hz
      have hml : n ≤ maxLen := by unfold maxLen; omega
      clear ht hp hz
      go_enter Try.func5, Try.ntmps5
      go_wp2_with fail
      with_reducible refine (fronts_ok _).mono ?_
      rintro e w1 ⟨rfl, hb1⟩
      have HB1 := hid hb1
      have HR1 := hid (HR.out.keep hb1)
      clear hb1
      go_wp2_with fail
      with_reducible refine (FGet_fit _ HR1.out hn).mono ?_
      rintro e w2 ⟨⟨_, rfl⟩ | ⟨h, _⟩, hb⟩
      case inr => exact absurd HP.out h
      rw [← HT.out]
      have HB2 := hid (bl_then HB1.out hb)
      have HR2 := hid (HR1.out.keep hb)
      clear hb HB1 HR1
      go_wp2_with fail
      with_reducible refine (FPut_ok t _ (by rw [HZ.out]; exact hn)).mono ?_
      rintro e w3 ⟨B, d, rfl, hrow, hb⟩
      rw [HZ.out]
      rw [HZ.out] at hrow
      have HB3 := hid (bl_then HB2.out hb)
      have HR3 := hid (HR2.out.keep hb)
      have HW3 := hid (hrow.congr HG.out)
      clear hb hrow HB2 HR2
      go_wp2_with fail
      with_reducible refine (equal_any HR3.out HW3.out hml hml).mono ?_
      rintro e w4 ⟨rfl, hd⟩
      have HB4 := hid (bl_then HB3.out (hd.below _))
      have he : eqB n n g g = true := eqB_true.2 ⟨rfl, fun _ _ => rfl⟩
      rw [he]
      clear hd HR3 HW3
      go_wp2
      go_ret
      exact ⟨rfl, HB4.out⟩
    · have HP := hid hp
      clear hp
      go_enter Try.func5, Try.ntmps5
      go_wp2_with fail
      with_reducible refine (fronts_ok _).mono ?_
      rintro e w1 ⟨rfl, hb1⟩
      have HB1 := hid hb1
      have HR1 := hid (HR.out.keep hb1)
      clear hb1
      go_wp2_with fail
      with_reducible refine (FGet_fit _ HR1.out hn).mono ?_
      rintro e w2 ⟨⟨h, _⟩ | ⟨_, rfl⟩, hb⟩
      case inl => exact absurd h HP.out
      have HB2 := hid (bl_then HB1.out hb)
      clear hb HB1 HR1
      go_wp2
      go_ret
      exact ⟨rfl, HB2.out⟩
  · go_enter Try.func5, Try.ntmps5
    go_wp2_with fail
    with_reducible refine (fronts_ok _).mono ?_
    rintro e w1 ⟨rfl, hb1⟩
    have HB1 := hid hb1
    clear hb1
    go_wp2_with fail
    with_reducible refine (FGet_large _ (by omega)).mono ?_
    rintro e w2 ⟨rfl, rfl⟩
    go_wp2
    go_ret
    exact ⟨rfl, HB1.out⟩
end Go.Proofs.Ythebjelkmopboaa
