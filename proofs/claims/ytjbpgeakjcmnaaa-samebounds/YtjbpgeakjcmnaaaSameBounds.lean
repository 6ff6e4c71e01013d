
/-
quillkeep.SameBounds: whatever a and b: it answers true.
-/
import Derived.Test.YtjbpgeakjcmnaaaSames
namespace Go.Proofs.Ytjbpgeakjcmnaaa
open Go.RowKit

set_option maxHeartbeats 1000000 in
theorem sameBounds_walk (a b : ByteArray) (sa : a.size ≤ maxLen) (sb : b.size ≤ maxLen) (w : World) :
    Calls Try.prog 4 #[.string a, .string b] w fun e w' => e = .returned (.bool true) ∧ Below w.heap.size w w' := by
  by_cases h : a.size ≤ 200 ∧ b.size ≤ 200
  · obtain ⟨ha, hb⟩ := h
    have hba : (backS a).size ≤ 200 := by rw [backS_size]; exact ha
    have hbb : (backS b).size ≤ 200 := by rw [backS_size]; exact hb
    obtain ⟨n, hn⟩ : ∃ n, n = Sa.lc (lst a) (lst b) := ⟨_, rfl⟩
    have HN := hid hn
    obtain ⟨m, hm⟩ : ∃ m, m = if b.size < a.size then b.size else a.size := ⟨_, rfl⟩
    have hmin : (if b.size < a.size then (b.size : Int) else (a.size : Int)) = (m : Int) := by
      rw [hm]
      split <;> rfl
    have hnm : (n : Int) ≤ (m : Int) := by
      have h1 := Sa.lc_left (lst a) (lst b)
      have h2 := Sa.lc_right (lst a) (lst b)
      rw [lst_len, ← hn] at h1 h2
      rw [hm]
      split <;> omega
    have hlies := Sa.lies_lc (lst a) (lst b)
    rw [lst_len, ← hn] at hlies
    have HR := hid hlies
    clear hn hm hlies
    go_enter Try.func4, Try.ntmps4
    go_wp2_with fail
    with_reducible refine (sames_ok _).mono ?_
    rintro e w1 ⟨rfl, hb1⟩
    have HB := hid hb1
    clear hb1
    go_wp2_with fail
    with_reducible refine (Long_ok a b _ ha hb).mono ?_
    rintro e w2 ⟨he, hb2⟩
    rw [← HN.out] at he
    subst he
    have HB := hid (bl_then HB.out hb2)
    clear hb2
    go_wp2_with fail
    with_reducible refine (Long_ok b a _ hb ha).mono ?_
    rintro e w3 ⟨he, hb2⟩
    rw [Sa.lc_comm, ← HN.out] at he
    subst he
    have HB := hid (bl_then HB.out hb2)
    clear hb2
    go_wp2_with fail
    with_reducible refine (back_any a _ sa).mono ?_
    rintro e w4 ⟨rfl, hb2⟩
    have HB := hid (bl_then HB.out hb2)
    clear hb2
    go_wp2_with fail
    with_reducible refine (back_any b _ sb).mono ?_
    rintro e w5 ⟨rfl, hb2⟩
    have HB := hid (bl_then HB.out hb2)
    clear hb2
    go_wp2_with fail
    with_reducible refine (Long_ok (backS a) (backS b) _ hba hbb).mono ?_
    rintro e w6 ⟨he, hb2⟩
    rw [lst_rev, lst_rev, Sa.lc_rev, ← HN.out] at he
    subst he
    have HB := hid (bl_then HB.out hb2)
    clear hb2
    go_wp2_with fail
    with_reducible refine (Within_ok a b _ ha hb).mono ?_
    rintro e w7 ⟨he, hd⟩
    rw [HR.out] at he
    subst he
    have HB := hid (HB.out.trans (hd.below _))
    clear hd
    go_wp2_with fail
    with_reducible refine (good_ok _ 3 _ _ (by decide) (zeros3 _ _)).mono ?_
    rintro e w8 ⟨rfl, rfl⟩
    by_cases hf : n = a.size
    · have hq : ((n : Int) == (a.size : Int)) = true := by rw [hf]; simp
      have hd : decide (n = a.size) = true := decide_eq_true hf
      clear hf
      rw [hd]
      go_wp2
      go_ret
      exact ⟨rfl, HB.out.alloc HB.out.size _⟩
    · have hq : ((n : Int) == (a.size : Int)) = false := beq_eq_false_iff_ne.2 (by omega)
      have hd : decide (n = a.size) = false := decide_eq_false hf
      clear hf
      rw [hd]
      go_wp2
      go_ret
      exact ⟨rfl, HB.out.alloc HB.out.size _⟩
  · have h1 : 200 < a.size ∨ 200 < b.size := by omega
    have h2 : 200 < b.size ∨ 200 < a.size := by omega
    have h3 : 200 < (backS a).size ∨ 200 < (backS b).size := by rw [backS_size, backS_size]; exact h1
    clear h
    go_enter Try.func4, Try.ntmps4
    go_wp2_with fail
    with_reducible refine (sames_ok _).mono ?_
    rintro e w1 ⟨rfl, hb1⟩
    have HB := hid hb1
    clear hb1
    go_wp2_with fail
    with_reducible refine (Long_large a b _ h1).mono ?_
    rintro e w2 ⟨rfl, rfl⟩
    go_wp2_with fail
    with_reducible refine (Long_large b a _ h2).mono ?_
    rintro e w2 ⟨rfl, rfl⟩
    go_wp2_with fail
    with_reducible refine (back_any a _ sa).mono ?_
    rintro e w4 ⟨rfl, hb2⟩
    have HB := hid (bl_then HB.out hb2)
    clear hb2
    go_wp2_with fail
    with_reducible refine (back_any b _ sb).mono ?_
    rintro e w5 ⟨rfl, hb2⟩
    have HB := hid (bl_then HB.out hb2)
    clear hb2
    go_wp2_with fail
    with_reducible refine (Long_large (backS a) (backS b) _ h3).mono ?_
    rintro e w6 ⟨rfl, rfl⟩
    go_wp2_with fail
    with_reducible refine (Within_large a b _ h1).mono ?_
    rintro e w7 ⟨rfl, rfl⟩
    go_wp2
    go_ret
    exact ⟨rfl, HB.out⟩
end Go.Proofs.Ytjbpgeakjcmnaaa
