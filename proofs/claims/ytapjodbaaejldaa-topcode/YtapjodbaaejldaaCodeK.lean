
/-
The contract of code.Check; slices.Contains at rows of words.
-/
import Derived.Test.YtapjodbaaejldaaSeg29
import Derived.Test.YtapjodbaaejldaaShelfK
namespace Go.Proofs.Ytapjodbaaejldaa
open Go.RowKit

theorem scontains_any {A : Option Addr} {n c : Nat} {g : Nat → ByteArray} {w : World} (x : ByteArray) (h : SRow w A n g) (hn : n ≤ maxLen) :
    Calls Try.prog 113 #[.slice A n c, .string x] w fun e w' => e = .returned (.bool (decide (wd x ∈ cws g n))) ∧ w = w' := by
  unfold maxLen at hn
  rcases Nat.eq_zero_or_pos n with rfl | h0
  · refine (Try.slices_Contains_string_empty A c x w).mono ?_
    rintro e w1 ⟨rfl, rfl⟩
    exact ⟨rfl, rfl⟩
  · obtain ⟨b, o, rfl, hb, hcell⟩ := h.spot h0
    have hlen := rowL_len g n
    refine (Try.slices_Contains_string b o n c (rowL g n) x w (by omega) (by omega) (fun j hj => ?_)).mono ?_
    · rw [rowL_get (by omega)]; exact hcell j (by omega)
    rintro e w1 ⟨rfl, rfl⟩
    refine ⟨ret_bool ?_, rfl⟩
    rw [List.take_of_length_le (by omega), Bool.eq_iff_iff, Lib.containsS_iff, decide_eq_true_iff, mem_cws]
    unfold rowL
    rw [List.mem_map]
    constructor
    · rintro ⟨k, hk, e⟩; exact ⟨k, List.mem_range.1 hk, by rw [e]⟩
    · rintro ⟨k, hk, e⟩; exact ⟨k, List.mem_range.2 hk, wd_inj e⟩
theorem ccheck_large {A : Option Addr} {n c : Nat} (w : World) (hn : 12 < n) :
    Calls Try.prog 76 #[.slice A n c] w fun e w' => e = .returned (.int .i64 2) ∧ w = w' := by
  have h1 : (12 : Int) < (n : Int) := by omega
  go_enter Try.func76, Try.ntmps76
  go_wp2
  go_ret
  exact ⟨rfl, rfl⟩
set_option maxHeartbeats 1000000 in
theorem check_small {A : Option Addr} {n c : Nat} {g : Nat → ByteArray} (w : World) (h : SRow w A n g) (hnc : n ≤ c) (hn : n ≤ 12) :
    Calls Try.prog 76 #[.slice A n c] w fun e w' => e = .returned (.int .i64 (Cm.cErr (cws g n))) ∧ w = w' := by
  have H := hid h
  clear h
  have h1 : decide ((12 : Int) < (n : Int)) = false := decide_eq_false (by omega)
  go_enter Try.func76, Try.ntmps76
  go_wp2
  go_loopw [10] (fun y wr => ∃ i : Nat, i ≤ n ∧ y = .int .i64 (i : Int) ∧ Hid (Cm.cErr (cws g n) = Cm.cE (cws g i) ((cws g n).drop i)) ∧ wr = w) (fun y _ => n - (intOf y).toNat)
  case atStart => exact ⟨0, by omega, rfl, Cm.cErr_small (by rw [cws_len]; omega), rfl⟩
  case round =>
    obtain ⟨i, hi, rfl, HE, rfl⟩ := hrel
    by_cases hlt : i < n
    · have hlt' : (i : Int) < (n : Int) := by omega
      have hic : (i : Int) ≤ (c : Int) := by omega
      obtain ⟨b, o, hA, _, hc⟩ := H.out i hlt
      have HE2 : Hid (Cm.cErr (cws g n) = if Cm.wE (cws g i) (wd (g i)) ≠ 0 then Cm.wE (cws g i) (wd (g i)) else Cm.cE (cws g (i + 1)) ((cws g n).drop (i + 1))) := by
        have := Cm.cE_at (W := cws g n) (i := i) (by rw [cws_len]; exact hlt)
        rw [cws_take hi, cws_take (by omega : i + 1 ≤ n), cws_get hlt] at this
        rw [HE.out, this]
        trivial
      obtain ⟨E, hE⟩ : ∃ E, E = Cm.wE (cws g i) (wd (g i)) := ⟨_, rfl⟩
      rw [← hE] at HE2
      have HF : Hid (∀ v, v ≠ 0 → E = v → Cm.cErr (cws g n) = v) := by
        intro v h1 h2
        rw [HE2.out, if_pos (by rw [h2]; exact h1), h2]
      have HG : Hid (E = 0 → Cm.cErr (cws g n) = Cm.cE (cws g (i + 1)) ((cws g n).drop (i + 1))) := by
        intro h2
        rw [HE2.out, if_neg (by simpa using h2)]
      have hIx : ∀ W, SRow W A i g → Calls Try.prog 113 #[.slice A i c, .string (g i)] W fun e w' => e = .returned (.bool (decide (wd (g i) ∈ cws g i))) ∧ W = w' := by
        intro W hW
        exact scontains_any (c := c) (g i) hW (by unfold maxLen; omega)
      obtain ⟨p, hp⟩ : ∃ p : Bool, p = decide (wd (g i) ∈ cws g i) := ⟨_, rfl⟩
      have hmem : wd (g i) ∈ cws g i ↔ p = true := by rw [hp, decide_eq_true_iff]
      rw [← hp] at hIx
      have hbc := bits_count (wd (g i))
      have HWE := hid (hE.trans (wE_is (x := g i) hmem))
      have hc0 : Lib.countByte (g i).data.toList 48 = (wd (g i)).count 48 := rfl
      have hc1 : Lib.countByte (g i).data.toList 49 = (wd (g i)).count 49 := rfl
      have hbc1 := hbc.1
      rw [wd_len] at hbc1
      clear hbc hmem HE HE2 hE hp
      have hC0 := fun W => Try.strings_Count_one (g i) 48 W
      have hC1 := fun W => Try.strings_Count_one (g i) 49 W
      rw [hc0] at hC0
      rw [hc1] at hC1
      clear hc0 hc1
      generalize (wd (g i)).count 48 = c0 at HWE hC0 hbc1
      generalize (wd (g i)).count 49 = c1 at HWE hC1 hbc1
      have HRow := hid (H.out.fewer hi)
      generalize g i = x at hc hbc1 HWE hC0 hC1 hIx
      subst hA
      by_cases a1 : x.size = 0
      · have a1' : x.toList.isEmpty = true := no_bytes a1
        have HR := hid (HF.out 5 (by decide) (by rw [HWE.out, if_pos a1]))
        clear HF HG HWE
        go_wp2
        go_ret
        rw [HR.out]
        exact ⟨rfl, rfl⟩
      · have a1' : x.toList.isEmpty = false := some_bytes (by omega)
        by_cases a2 : 12 < x.size
        · have a2' : (12 : Int) < (x.size : Int) := by omega
          have HR := hid (HF.out 2 (by decide) (by rw [HWE.out, if_neg a1, if_pos a2]))
          clear HF HG HWE
          go_wp2
          go_ret
          rw [HR.out]
          exact ⟨rfl, rfl⟩
        · have a2' : decide ((12 : Int) < (x.size : Int)) = false := decide_eq_false (by omega)
          go_wp2_with fail
          refine (hC0 _).mono ?_
          rintro e w1 ⟨rfl, rfl⟩
          go_wp2_with fail
          refine (hC1 _).mono ?_
          rintro e w2 ⟨rfl, rfl⟩
          clear hC0 hC1
          by_cases a3 : c0 + c1 ≠ x.size
          · have a3' : ((c0 : Int) + (c1 : Int) != (x.size : Int)) = true := bne_iff_ne.2 (by omega)
            have HR := hid (HF.out 3 (by decide) (by rw [HWE.out, if_neg a1, if_neg a2, if_pos a3]))
            clear HF HG HWE
            go_wp2
            go_ret
            rw [HR.out]
            exact ⟨rfl, rfl⟩
          · have a3' : ((c0 : Int) + (c1 : Int) != (x.size : Int)) = false := bne_eq_false_iff_eq.2 (by omega)
            go_wp2_with fail
            with_reducible refine (hIx _ HRow.out).mono ?_
            rintro e w3 ⟨rfl, rfl⟩
            clear hIx
            cases p
            · have HR := hid (HG.out (by rw [HWE.out, if_neg a1, if_neg a2, if_neg a3, if_neg (by decide)]))
              clear HF HG HWE
              go_wp2
              go_roundw
              case measure => simp [intOf]; omega
              case rel => exact ⟨i + 1, by omega, by go_num, HR, by trivial⟩
            · have HR := hid (HF.out 10 (by decide) (by rw [HWE.out, if_neg a1, if_neg a2, if_neg a3, if_pos rfl]))
              clear HF HG HWE
              go_wp2
              go_ret
              rw [HR.out]
              exact ⟨rfl, rfl⟩
    · have hdl : decide ((i : Int) < (n : Int)) = false := decide_eq_false (by omega)
      obtain rfl : n = i := by omega
      have HR : Hid (Cm.cErr (cws g n) = 0) := by
        have := Cm.cE_end (cws g n)
        rw [cws_len, cws_take (Nat.le_refl _)] at this
        rw [HE.out, this]
        trivial
      go_wp2
      go_ret
      rw [HR.out]
      exact ⟨rfl, rfl⟩
theorem check_any {A : Option Addr} {n c : Nat} {g : Nat → ByteArray} (w : World) (h : SRow w A n g) (hc : n ≤ c) :
    Calls Try.prog 76 #[.slice A n c] w fun e w' => e = .returned (.int .i64 (Cm.cErr (cws g n))) ∧ w = w' := by
  by_cases hn : n ≤ 12
  · exact check_small w h hc hn
  · have : Cm.cErr (cws g n) = 2 := by unfold Cm.cErr; rw [cws_len, if_pos (by omega)]
    rw [this]
    exact ccheck_large w (by omega)
end Go.Proofs.Ytapjodbaaejldaa
