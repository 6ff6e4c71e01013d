
/-
quillkeep.DistSwaps: whatever three words: it answers true.
-/
import Derived.Test.YtppaicpjbcjgmaaDists
import Derived.Test.YtppaicpjbcjgmaaSames
namespace Go.Proofs.Ytppaicpjbcjgmaa
open Go.RowKit

theorem ex_karolin : Lev.hm (lst ⟨#[107, 97, 114, 111, 108, 105, 110]⟩) (lst ⟨#[107, 97, 116, 104, 114, 105, 110]⟩) = 3 := by decide +kernel
set_option maxHeartbeats 1000000 in
theorem distSwaps_walk (a0 b0 c0 : ByteArray) (_ : a0.size ≤ maxLen) (_ : b0.size ≤ maxLen) (_ : c0.size ≤ maxLen) (w : World) :
    Calls Try.prog 7 #[.string a0, .string b0, .string c0] w fun e w' => e = .returned (.bool true) ∧ Below w.heap.size w w' := by
  obtain ⟨m, hm⟩ : ∃ m, m = min a0.size (min b0.size c0.size) := ⟨_, rfl⟩
  have hmn := fun (W : World) => min_three Try.prog W #[3, 3, 3] 3 (a0.size : Int) (b0.size : Int) (c0.size : Int) (m : Int) (by omega)
  have hma : (m : Int) ≤ (a0.size : Int) := by omega
  have hmb : (m : Int) ≤ (b0.size : Int) := by omega
  have hmc : (m : Int) ≤ (c0.size : Int) := by omega
  have hm0 : (0 : Int) ≤ (m : Int) := by omega
  have HA := hid (show (a0.extract 0 m).size = m by rw [size_ext]; omega)
  have HBB := hid (show (b0.extract 0 m).size = m by rw [size_ext]; omega)
  have HC := hid (show (c0.extract 0 m).size = m by rw [size_ext]; omega)
  have HIF : Hid ((if (c0.size : Int) < (if b0.size < a0.size then (b0.size : Int) else (a0.size : Int)) then (c0.size : Int) else (if b0.size < a0.size then (b0.size : Int) else (a0.size : Int))) = (m : Int)) := by
    show _ = _
    split <;> split at * <;> omega
  clear hm
  have hif := HIF.out
  go_enter Try.func7, Try.ntmps7
  go_wp2_with fail
  with_reducible refine (Swaps_ok ⟨#[107, 97, 114, 111, 108, 105, 110]⟩ ⟨#[107, 97, 116, 104, 114, 105, 110]⟩ _ (by decide) rfl).mono ?_
  rintro e w1 ⟨rfl, hd1⟩
  rw [ex_karolin]
  have HB := hid (hd1.below w.heap.size)
  clear hd1
  go_wp2_with fail
  with_reducible refine (dists_ok _).mono ?_
  rintro e w2 ⟨rfl, hb2⟩
  have HB := hid (bl_then HB.out hb2)
  clear hb2
  go_wp2
  go_quiet (fail)
  clear hif hmn
  generalize a0.extract 0 m = a at *
  generalize b0.extract 0 m = b at *
  generalize c0.extract 0 m = c at *
  by_cases h : m ≤ 200
  · have ha : a.size ≤ 200 := by have := HA.out; omega
    have hb : b.size ≤ 200 := by have := HBB.out; omega
    have hab : a.size = b.size := by have := HA.out; have := HBB.out; omega
    have hbc : b.size = c.size := by have := HC.out; have := HBB.out; omega
    have hac : a.size = c.size := by omega
    have hlab : (lst a).length = (lst b).length := by rw [lst_len, lst_len]; exact hab
    have hlbc : (lst b).length = (lst c).length := by rw [lst_len, lst_len]; exact hbc
    obtain ⟨x, hx⟩ : ∃ x, x = Lev.hm (lst a) (lst b) := ⟨_, rfl⟩
    obtain ⟨y, hy⟩ : ∃ y, y = Lev.hm (lst b) (lst c) := ⟨_, rfl⟩
    obtain ⟨z, hz⟩ : ∃ z, z = Lev.hm (lst a) (lst c) := ⟨_, rfl⟩
    obtain ⟨d, hd⟩ : ∃ d, d = Lev.lv (lst a) (lst b) := ⟨_, rfl⟩
    have h1 : (d : Int) ≤ (x : Int) := by rw [hd, hx]; have := Lev.lv_hm hlab; omega
    have h2 : (z : Int) ≤ (x : Int) + (y : Int) := by rw [hx, hy, hz]; have := Lev.hm_tri hlab hlbc; omega
    have h3 : x = 0 ↔ a = b := by
      rw [hx, Lev.hm_zero hlab]
      exact ⟨lst_inj_, fun h => by rw [h]⟩
    have hx5 : x ≤ 200 := by rw [hx]; have := Lev.hm_le (lst a) (lst b); rw [lst_len] at this; omega
    have hy5 : y ≤ 200 := by rw [hy]; have := Lev.hm_le (lst b) (lst c); rw [lst_len] at this; omega
    have g1 : IntKind.i64.wrap ((x : Int) + (y : Int)) = (x : Int) + (y : Int) := IntWalk.i64_in _ (by omega)
    have HX := hid hx
    have HY := hid hy
    have HZ := hid hz
    have HD := hid hd
    have HXE := hid h3
    clear hlab hlbc hx hy hz hd h3
    go_wp2_with fail
    with_reducible refine (Swaps_ok a b _ ha hab).mono ?_
    rintro e w3 ⟨he, hd3⟩
    rw [← HX.out] at he
    subst he
    have HB := hid ((bl_drewN HB.out _).trans (hd3.below _))
    clear hd3
    go_wp2_with fail
    with_reducible refine (Swaps_ok b c _ hb hbc).mono ?_
    rintro e w4 ⟨he, hd3⟩
    rw [← HY.out] at he
    subst he
    have HB := hid (HB.out.trans (hd3.below _))
    clear hd3
    go_wp2_with fail
    with_reducible refine (Swaps_ok a c _ ha hac).mono ?_
    rintro e w5 ⟨he, hd3⟩
    rw [← HZ.out] at he
    subst he
    have HB := hid (HB.out.trans (hd3.below _))
    clear hd3
    go_wp2_with fail
    with_reducible refine (Of_ok a b _ ha hb).mono ?_
    rintro e w6 ⟨he, hb2⟩
    rw [← HD.out] at he
    subst he
    have HB := hid (bl_then HB.out hb2)
    clear hb2 hab hbc hac
    go_wp2_with fail
    with_reducible refine (good_ok _ 3 3 _ (by omega) (zeros3 _ _)).mono ?_
    rintro e w7 ⟨rfl, rfl⟩
    have HB := hid (bl_then HB.out (bl_new w6 (.cells #[.int .i64 0, .int .i64 0, .int .i64 0] 23)))
    by_cases hab : a = b
    · have q1 : (a.toList == b.toList) = true := by rw [hab]; simp
      have q2 : ((x : Int) == 0) = true := by rw [HXE.out.2 hab]; rfl
      clear hab
      go_wp2
      go_ret
      exact ⟨rfl, HB.out⟩
    · have q1 : (a.toList == b.toList) = false := beq_eq_false_iff_ne.2 fun e => hab (list_eq.1 e)
      have q2 : ((x : Int) == 0) = false := beq_eq_false_iff_ne.2 (by intro h; exact hab (HXE.out.1 (by omega)))
      clear hab
      go_wp2
      go_ret
      exact ⟨rfl, HB.out⟩
  · have hab : 200 < a.size ∨ 200 < b.size := by have := HA.out; omega
    have hbc : 200 < b.size ∨ 200 < c.size := by have := HBB.out; omega
    have hac : 200 < a.size ∨ 200 < c.size := by have := HA.out; omega
    clear h
    go_wp2_with fail
    with_reducible refine (Swaps_large a b _ hab).mono ?_
    rintro e w3 ⟨rfl, rfl⟩
    go_wp2_with fail
    with_reducible refine (Swaps_large b c _ hbc).mono ?_
    rintro e w3 ⟨rfl, rfl⟩
    go_wp2_with fail
    with_reducible refine (Swaps_large a c _ hac).mono ?_
    rintro e w3 ⟨rfl, rfl⟩
    go_wp2_with fail
    with_reducible refine (Of_large a b _ hab).mono ?_
    rintro e w3 ⟨rfl, rfl⟩
    go_wp2
    go_ret
    exact ⟨rfl, bl_drewN HB.out _⟩
end Go.Proofs.Ytppaicpjbcjgmaa
