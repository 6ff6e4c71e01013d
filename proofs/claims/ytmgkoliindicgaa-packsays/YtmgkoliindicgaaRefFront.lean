
/-
The contract of quillref.FrontCode.
-/
import Derived.Test.YtmgkoliindicgaaCRow
import Derived.Test.YtmgkoliindicgaaSortW
import Derived.Test.YtmgkoliindicgaaShelfK
namespace Go.Proofs.Ytmgkoliindicgaa
open Go.RowKit

theorem owns_lst {w : World} {base : Nat} {v : Value} {N : List ByteArray} (h : w.ownsRow base 9 1 v N.length (N.map Value.string)) : OwnL w base v (N.map wd) := by
  unfold OwnL
  rw [List.length_map, List.map_map]
  have e : N.map (Go.Proofs.encStr ∘ wd) = N.map Value.string := List.map_congr_left fun x _ => enc_lst x
  rw [e]
  exact h
theorem rowL_wd (g : Nat → ByteArray) (n : Nat) : (rowL g n).map wd = cws g n := by unfold rowL cws; rw [List.map_map]; rfl
theorem sclone_any {A : Option Addr} {n c : Nat} {g : Nat → ByteArray} {w : World} (h : SRow w A n g) (hn : n * 16 ≤ 140737488355328) :
    Calls Try.prog 40 #[.slice A n c] w fun e w' => ∃ v', e = .returned v' ∧ OwnL w' w.heap.size v' (cws g n) ∧ Below w.heap.size w w' := by
  rcases Nat.eq_zero_or_pos n with rfl | h0
  · cases A with
    | none =>
      refine (Try.slices_Clone_string_nil 0 c w).mono ?_
      rintro e w1 ⟨rfl, rfl⟩
      exact ⟨_, rfl, OwnL.zero _ _, Below.refl _ _⟩
    | some a =>
      refine (Try.slices_Clone_string_zero a c w).mono ?_
      rintro e w1 ⟨v', rfl, hown, _, hb⟩
      exact ⟨_, rfl, hown, hb⟩
  · obtain ⟨b, o, rfl, hb, hcell⟩ := h.spot h0
    have hlen := rowL_len g n
    refine (Try.slices_Clone_string b o n c (rowL g n) w (by omega) hn (fun j hj => ?_)).mono ?_
    · rw [rowL_get (by omega)]; exact hcell j (by omega)
    rintro e w1 ⟨v', rfl, hown, _, hb⟩
    refine ⟨v', rfl, ?_, hb⟩
    rw [List.take_of_length_le (by omega)] at hown
    rw [← rowL_wd]
    refine owns_lst ?_
    rw [hlen]
    exact hown
theorem srt_strict {W : List (List UInt8)} (h : W.Nodup) : (srt W).Pairwise (· < ·) := by
  have hn : (srt W).Pairwise (· ≠ ·) := ((srt_perm W).nodup_iff).2 h
  refine ((srt_up W).and hn).imp ?_
  rintro a b ⟨h1, h2⟩
  by_cases h : a < b
  · exact h
  · exact absurd (Sm.tri h h1) h2
theorem pf_srt (W : List (List UInt8)) : Cm.PF (srt W) ↔ Cm.PF W := by
  unfold Cm.PF
  constructor
  · intro h w hw v hv; exact h w ((srt_perm W).mem_iff.2 hw) v ((srt_perm W).mem_iff.2 hv)
  · intro h w hw v hv; exact h w ((srt_perm W).mem_iff.1 hw) v ((srt_perm W).mem_iff.1 hv)
theorem hasPrefix_iff {s p : List UInt8} : Lib.hasPrefix s p = true ↔ p <+: s := by unfold Lib.hasPrefix; exact List.isPrefixOf_iff_prefix
theorem quiet_w {w w' : World} {x : Nat} (h : w' = w.drewN x) : ∃ n, w' = w.drewN n := ⟨x, h⟩
theorem quiet_w2 {w w' : World} {d x : Nat} (h : w' = w.drewN (d + x)) : ∃ n, w' = w.drewN (d + n) := ⟨x, h⟩
set_option maxHeartbeats 1000000 in
theorem FrontCode_ok {A : Option Addr} {n c : Nat} {g : Nat → ByteArray} (w : World) (h : SRow w A n g) (hg : Cm.Good (cws g n)) :
    Calls Try.prog 16 #[.slice A n c] w fun e w' => (∃ b : Bool, e = .returned (.bool b) ∧ (b = true ↔ Cm.PF (cws g n))) ∧ Below w.heap.size w w' := by
  have hn : n ≤ 12 := by have := hg.few; rw [cws_len] at this; exact this
  have HG := hid hg
  clear hg
  go_enter Try.func16, Try.ntmps16
  go_wp2_with fail
  with_reducible refine (sclone_any h (by omega)).mono ?_
  rintro e w1 ⟨v, rfl, hown, hb1⟩
  have HO := hid hown
  clear hown h
  go_wp2_with fail
  with_reducible refine (sort_lst _ w.heap.size _ _ HO.out (by rw [cws_len]; omega) hb1.size).mono ?_
  rintro e w2 ⟨rfl, hown, hb2⟩
  have HB := hid (hb1.trans hb2)
  clear HO hb1 hb2
  obtain ⟨A2, c2, rfl, hrow⟩ := hown.row
  have hl : (srt (cws g n)).length = n := by rw [srt_len, cws_len]
  have HP : Hid (Cm.PF (cws g n) ↔ ∀ i, i + 1 < n → ¬ (srt (cws g n)).getD i [] <+: (srt (cws g n)).getD (i + 1) []) := by
    have := Cm.pf_next (srt_strict HG.out.nodup)
    rw [hl, pf_srt] at this
    exact this
  have HS : Hid (∀ k, k < n → ((srt (cws g n)).getD k []).length ≤ 12) := by
    intro k hk
    have hm : (srt (cws g n)).getD k [] ∈ srt (cws g n) := by
      rw [List.getD_eq_getElem?_getD, List.getElem?_eq_getElem (by omega)]
      exact List.getElem_mem _
    exact HG.out.short _ ((srt_perm _).mem_iff.1 hm)
  rw [hl] at hrow ⊢
  have HR := hid hrow
  clear hown hrow HG hl
  generalize srt (cws g n) = D at HP HR HS
  go_wp2
  go_loopw [4] (fun x wr => ∃ i : Nat, 1 ≤ i ∧ (i ≤ n ∨ i = 1) ∧ x = .int .i64 (i : Int) ∧ Hid (∀ j, j + 1 < i → ¬ D.getD j [] <+: D.getD (j + 1) []) ∧ Drew w2 wr) (fun x _ => n - (intOf x).toNat)
  case atStart => exact ⟨1, by omega, by omega, rfl, fun j hj => by omega, Drew.refl _⟩
  case round =>
    obtain ⟨i, hi1, hi2, rfl, HI, dd, rfl⟩ := hrel
    by_cases hlt : i < n
    · have hlt' : (i : Int) < (n : Int) := by omega
      obtain ⟨q, hq⟩ : ∃ q, q = i - 1 := ⟨_, rfl⟩
      have eq1 : (i : Int) - 1 = (q : Int) := by omega
      have eq0 : (0 : Int) ≤ (q : Int) := by omega
      have eq2 : (q : Int) < (n : Int) := by omega
      have eqw : IntKind.i64.wrap (q : Int) = (q : Int) := IntWalk.i64_in _ (by omega)
      obtain ⟨b, o, hA, _, hc1⟩ := HR.out i hlt
      obtain ⟨b', o', hA', _, hc2⟩ := HR.out q (by omega)
      subst hA
      obtain ⟨rfl, rfl⟩ : b' = b ∧ o' = o := by injection hA' with e; injection e with e1 e2; exact ⟨e1.symm, e2.symm⟩
      have hc1' : w2.cell? ⟨b', o' + i, none⟩ = some (.string (mkS (D.getD i []))) := hc1
      have hc2' : w2.cell? ⟨b', o' + q, none⟩ = some (.string (mkS (D.getD q []))) := hc2
      have hx1 : (mkS (D.getD i [])).size ≤ 12 := by rw [mk_size]; exact HS.out i hlt
      have hH : ∀ W, Calls Try.prog 42 #[.string (mkS (D.getD i [])), .string (mkS (D.getD q []))] W fun e w' => e = .returned (.bool (decide (D.getD q [] <+: D.getD i []))) ∧ w' = W := by
        intro W
        refine (Try.strings_HasPrefix _ _ W).mono ?_
        rintro e w3 ⟨rfl, rfl⟩
        refine ⟨?_, rfl⟩
        congr 2
        rw [Bool.eq_iff_iff, hasPrefix_iff, decide_eq_true_iff]
        show lst (mkS _) <+: lst (mkS _) ↔ _
        rw [lst_mk, lst_mk]
      have HQ : Hid (¬ D.getD q [] <+: D.getD i [] → ∀ j, j + 1 < i + 1 → ¬ D.getD j [] <+: D.getD (j + 1) []) := by
        intro h j hj
        by_cases e : j + 1 = i
        · rw [e, show j = q by omega]; exact h
        · exact HI.out j (by omega)
      have HQ2 : Hid (D.getD q [] <+: D.getD i [] → ¬ Cm.PF (cws g n)) := by
        intro h hp
        have := HP.out.1 hp q (by omega)
        rw [show q + 1 = i by omega] at this
        exact this h
      clear hq hA' hc1 hc2 HI
      generalize mkS (D.getD i []) = x1 at hc1' hx1 hH
      generalize mkS (D.getD q []) = x2 at hc2' hH
      by_cases hp : D.getD q [] <+: D.getD i []
      · rw [decide_eq_true hp] at hH
        have HN := hid (HQ2.out hp)
        clear HQ HQ2 hp
        go_wp2
        go_quiet ((go_at_call 42; exact (hH _).mono fun e w' h => ⟨h.1, _, h.2⟩))
        go_wp2
        go_ret
        exact ⟨⟨false, rfl, ⟨fun h => (by cases h), fun h => absurd h HN.out⟩⟩, HB.out.trans (bl_drewN (bl_drewN (Below.refl _ _) _) _)⟩
      · rw [decide_eq_false hp] at hH
        have HN := hid (HQ.out hp)
        clear HQ HQ2 hp
        go_wp2
        go_quiet ((go_at_call 42; exact (hH _).mono fun e w' h => ⟨h.1, _, h.2⟩))
        go_wp2
        go_roundw
        case measure => simp [intOf]; omega
        case rel => exact ⟨i + 1, by omega, by omega, by go_num, HN, Drew.is_ _ _⟩
    · have hdl : decide ((i : Int) < (n : Int)) = false := decide_eq_false (by omega)
      have HN : Hid (Cm.PF (cws g n)) := HP.out.2 fun j hj => HI.out j (by omega)
      go_wp2
      go_ret
      exact ⟨⟨true, rfl, ⟨fun _ => HN.out, fun _ => rfl⟩⟩, HB.out.trans (bl_drewN (Below.refl _ _) _)⟩
end Go.Proofs.Ytmgkoliindicgaa
