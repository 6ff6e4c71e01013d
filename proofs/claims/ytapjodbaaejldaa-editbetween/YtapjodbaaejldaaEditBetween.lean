
/-
quilllaw.EditBetween: whatever two texts: it answers true.
-/
import Derived.Test.YtapjodbaaejldaaEdits
import Derived.Test.YtapjodbaaejldaaEEqual
import Derived.Test.YtapjodbaaejldaaRefBtw
import Derived.Test.YtapjodbaaejldaaRefEd
namespace Go.Proofs.Ytapjodbaaejldaa
open Go.RowKit

theorem two_strs (w : World) (s t : ByteArray) (ty : TypeId) : (w.alloc (.cells #[.string s, .string t] ty)).cell? ⟨w.heap.size, 0, none⟩ = some (.string s) ∧ (w.alloc (.cells #[.string s, .string t] ty)).cell? ⟨w.heap.size, 1, none⟩ = some (.string t) := by
  constructor <;> simp
theorem err_nil (n : Int) (h0 : 0 ≤ n) (h : n ≤ 200) : Es.eErr n [] = 0 := by
  unfold Es.eErr
  rw [if_neg (by omega), if_neg (by simp)]
  have h1 : Es.rowErr n (-1) [] = 0 := rfl
  have h2 : Es.gro [] = 0 := rfl
  rw [h1, h2, if_pos rfl, if_neg (by omega)]
/-- quillref.Long at two strings. -/
def lo (s t : ByteArray) : Int := if s.size ≤ 200 ∧ t.size ≤ 200 then 0 else 2
theorem longST_any (s t : ByteArray) (b : Nat) (w : World) (hc : w.cell? ⟨b, 0, none⟩ = some (.string s) ∧ w.cell? ⟨b, 1, none⟩ = some (.string t)) :
    Calls Try.prog 25 #[.slice (some ⟨b, 0, none⟩) 2 2] w fun e w' => e = .returned (.int .i64 (lo s t)) ∧ w = w' := by
  unfold lo
  by_cases h : s.size ≤ 200 ∧ t.size ≤ 200
  · rw [if_pos h]
    obtain ⟨hs, ht⟩ := h
    go_enter Try.func25, Try.ntmps25
    go_wp2
    go_loop [7] (fun i => ∃ k : Nat, k ≤ 2 ∧ i = .int .i64 k) (fun i => 2 - (intOf i).toNat)
    case atStart => exact ⟨0, by omega, rfl⟩
    case round =>
      obtain ⟨k, hk, rfl⟩ := hrel
      by_cases h : k < 2
      · obtain ⟨r, hr, hc'⟩ : ∃ r : ByteArray, r.size ≤ 200 ∧ w.cell? ⟨b, k, none⟩ = some (.string r) := by
          by_cases h0 : k = 0
          · subst h0; exact ⟨s, hs, hc.1⟩
          · obtain rfl : 1 = k := by omega
            exact ⟨t, ht, hc.2⟩
        clear hc hs ht
        go_wp2
        go_round
        case rel => exact ⟨k + 1, by omega, by go_num⟩
        case measure => simp [intOf]; omega
      · go_wp2
        go_ret
        exact ⟨rfl, rfl⟩
  · rw [if_neg h]
    have hl : 200 < s.size ∨ 200 < t.size := by omega
    clear h
    go_enter Try.func25, Try.ntmps25
    go_wp2
    go_loop [7] (fun i => ∃ k : Nat, k ≤ 1 ∧ i = .int .i64 k ∧ (k = 1 → s.size ≤ 200)) (fun i => 2 - (intOf i).toNat)
    case atStart => exact ⟨0, by omega, rfl, by omega⟩
    case round =>
      obtain ⟨k, hk, rfl, hk1⟩ := hrel
      by_cases h0 : k = 0
      · subst h0
        obtain ⟨hc, _⟩ := hc
        clear hk1
        by_cases hs : s.size ≤ 200
        · go_wp2
          go_round
          case rel => exact ⟨1, by omega, by go_num, fun _ => hs⟩
          case measure => simp [intOf]
        · have hs' : 200 < s.size := by omega
          go_wp2
          go_ret
          exact ⟨rfl, rfl⟩
      · obtain rfl : 1 = k := by omega
        obtain ⟨_, hc⟩ := hc
        have ht : 200 < t.size := by have := hk1 rfl; omega
        clear hk1 h0
        go_wp2
        go_ret
        exact ⟨rfl, rfl⟩
set_option maxHeartbeats 2000000 in
theorem editBetween_walk (s t : ByteArray) (w : World) (sa : s.size ≤ 140737488351232) (sb : t.size ≤ 140737488351232) :
    Calls Try.prog 4 #[.string s, .string t] w fun e w' => e = .returned (.bool true) ∧ Below w.heap.size w w' := by
  have hsm : s.size ≤ maxLen := by unfold maxLen; omega
  have htm : t.size ≤ maxLen := by unfold maxLen; omega
  have HSM := hid hsm
  have HTM := hid htm
  clear hsm htm
  go_enter Try.func4, Try.ntmps4
  go_wp2_with fail
  with_reducible refine (EdOf_any s t _ HSM.out HTM.out).mono ?_
  rintro e w1 ⟨B, m, d, x, rfl, hmd, hof, hr, hb1⟩
  have HB := hid hb1
  have HO := hid hof
  have HR := hid hr
  clear hb1 hof hr
  obtain ⟨z, hz⟩ : ∃ z, z = lo s t := ⟨_, rfl⟩
  have HZ := hid hz
  clear hz
  go_wp2_with fail
  with_reducible refine (longST_any s t _ _ (two_strs _ _ _ _)).mono ?_
  rintro e w2 ⟨he, rfl⟩
  rw [← HZ.out] at he
  subst he
  have HB := hid (HB.out.alloc HB.out.size (.cells #[.string s, .string t] 9))
  have HR : Hid (EvRow (w1.alloc (.cells #[.string s, .string t] 9)) B m (fun _ => Es.btw (lst s) (lst t))) := HR.out.keep (bl_new _ _)
  generalize w1.alloc (.cells #[.string s, .string t] 9) = w2 at *
  by_cases hst : s.size ≤ 200 ∧ t.size ≤ 200
  · obtain rfl : z = 0 := by rw [HZ.out]; unfold lo; rw [if_pos hst]
    obtain ⟨hs, ht⟩ := hst
    go_wp2_with fail
    with_reducible refine (Between_any s t _ hs ht).mono ?_
    rintro e w3 ⟨B2, m2, d2, rfl, hmd2, hm2, hr2, hb2⟩
    have HB := hid (bl_then HB.out hb2)
    have HR := hid (HR.out.keep hb2)
    have HR2 := hid hr2
    clear hb2 hr2
    obtain ⟨y, hy⟩ : ∃ y, y = Es.eErr (s.size : Int) (el (fun _ => Es.btw (lst s) (lst t)) m2) := ⟨_, rfl⟩
    have HY := hid hy
    have hyv : (s = t ∧ y = 0 ∧ m2 = 0) ∨ (s ≠ t ∧ m2 = 1 ∧ ((40 < (Es.btw (lst s) (lst t)).s.size ∧ y = 2) ∨ ((Es.btw (lst s) (lst t)).s.size ≤ 40 ∧ y = 0))) := by
      rcases hm2 with ⟨e, rfl⟩ | ⟨e, rfl⟩
      · left
        refine ⟨e, ?_, rfl⟩
        rw [hy]
        exact err_nil _ (by omega) (by omega)
      · right
        refine ⟨e, rfl, ?_⟩
        have h1 : el (fun _ => Es.btw (lst s) (lst t)) 1 = [Es.btw (lst s) (lst t)] := rfl
        have h2 := Es.btw_err (s := lst s) (t := lst t) (fun q => e (lst_inj_ q)) (by rw [lst_len]; exact hs) (by rw [lst_len]; exact ht)
        rw [lst_len] at h2
        rw [hy, h1, h2]
        by_cases h40 : 40 < (Es.btw (lst s) (lst t)).s.size
        · rw [if_pos h40]; exact .inl ⟨h40, rfl⟩
        · rw [if_neg h40]; exact .inr ⟨by omega, rfl⟩
    have HYV := hid hyv
    clear hy hyv hm2
    go_wp2_with fail
    with_reducible refine (EditsErr_any (s.size : Int) _ HR2.out).mono ?_
    rintro e w4 ⟨he, hb2⟩
    rw [← HY.out] at he
    subst he
    have HB := hid (bl_then HB.out hb2)
    have HR := hid (HR.out.keep hb2)
    clear hb2 HR2
    by_cases hy0 : y = 0
    · have hx : x = 0 ∧ m = m2 := by
        rcases HO.out with ⟨h1, _⟩ | ⟨_, h2, h3, h4⟩ | ⟨_, h2, h3, h4, h5⟩ | ⟨_, h2, h3, h4, h5⟩
        · exact absurd ⟨hs, ht⟩ h1
        · rcases HYV.out with ⟨_, _, h6⟩ | ⟨h6, _⟩
          · exact ⟨h4, by omega⟩
          · exact absurd h2 h6
        · rcases HYV.out with ⟨h6, _⟩ | ⟨_, _, ⟨_, h6⟩ | ⟨h6, _⟩⟩
          · exact absurd h6 h2
          · omega
          · omega
        · rcases HYV.out with ⟨h6, _⟩ | ⟨_, h6, _⟩
          · exact absurd h6 h2
          · exact ⟨h5, by omega⟩
      obtain ⟨rfl, rfl⟩ := hx
      subst hy0
      have hmm : m ≤ maxLen := by
        rcases HYV.out with ⟨_, _, h6⟩ | ⟨_, h6, _⟩
        · rw [h6]; decide
        · rw [h6]; decide
      have HMM := hid hmm
      have HEQ : Hid (eqE m m (fun _ => Es.btw (lst s) (lst t)) (fun _ => Es.btw (lst s) (lst t)) = true) := eqE_true.2 ⟨rfl, fun _ _ => rfl⟩
      clear HO hmm
      go_wp2_with fail
      with_reducible refine (Between_any s t _ hs ht).mono ?_
      rintro e w5 ⟨B3, m3, d3, rfl, hmd3, hm3, hr3, hb2⟩
      have HB := hid (bl_then HB.out hb2)
      have HR := hid (HR.out.keep hb2)
      have HR3 := hid hr3
      have hm3m : m3 = m := by
        rcases hm3 with ⟨a1, a2⟩ | ⟨a1, a2⟩
        · rcases HYV.out with ⟨_, _, a3⟩ | ⟨a3, _⟩
          · omega
          · exact absurd a1 a3
        · rcases HYV.out with ⟨a3, _⟩ | ⟨_, a3, _⟩
          · exact absurd a3 a1
          · omega
      subst hm3m
      clear hb2 hr3 hm3 HYV
      go_wp2_with fail
      with_reducible refine (ealike_any HR.out HR3.out HMM.out HMM.out).mono ?_
      rintro e w6 ⟨he, hd6⟩
      rw [HEQ.out] at he
      subst he
      have HB := hid (HB.out.trans (hd6.below _))
      clear hd6
      go_wp2
      go_ret
      exact ⟨rfl, HB.out⟩
    · have hx : x = 2 ∧ y = 2 ∧ m = 0 := by
        rcases HYV.out with ⟨_, h6, _⟩ | ⟨h6, _, ⟨h7, h8⟩ | ⟨_, h7⟩⟩
        · exact absurd h6 hy0
        · rcases HO.out with ⟨h1, _⟩ | ⟨_, h2, h3, h4⟩ | ⟨_, h2, h3, h4, h5⟩ | ⟨_, h2, h3, h4, h5⟩
          · exact absurd ⟨hs, ht⟩ h1
          · exact absurd h2 h6
          · exact ⟨h5, h8, h4⟩
          · omega
        · exact absurd h7 hy0
      obtain ⟨rfl, rfl, rfl⟩ := hx
      clear HYV HO hy0
      go_wp2
      go_ret
      exact ⟨rfl, HB.out⟩
  · have hx : x = 2 ∧ m = 0 ∧ z = 2 := by
      refine ⟨?_, ?_, by rw [HZ.out]; unfold lo; rw [if_neg hst]⟩
      · rcases HO.out with ⟨_, _, h⟩ | ⟨h, _⟩ | ⟨h, _⟩ | ⟨h, _⟩
        · exact h
        · exact absurd h hst
        · exact absurd h hst
        · exact absurd h hst
      · rcases HO.out with ⟨_, h, _⟩ | ⟨h, _⟩ | ⟨h, _⟩ | ⟨h, _⟩
        · exact h
        · exact absurd h hst
        · exact absurd h hst
        · exact absurd h hst
    obtain ⟨rfl, rfl, rfl⟩ := hx
    clear HO HZ hst
    go_wp2
    go_ret
    exact ⟨rfl, HB.out⟩
end Go.Proofs.Ytapjodbaaejldaa
