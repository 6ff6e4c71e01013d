
/-
quillkeep.PhraseBack: whatever s: it answers true.
-/
import Derived.Test.YtpifmahnlapdbaaPhs
import Derived.Test.YtpifmahnlapdbaaKeep
import Derived.Test.YtpifmahnlapdbaaPhGet
import Derived.Test.YtpifmahnlapdbaaShelfZ
namespace Go.Proofs.Ytpifmahnlapdbaa
open Go.RowKit

/-- slices.Contains at a row of words of the call's own. -/
theorem has_own {w : World} {base : Nat} {U : List (List UInt8)} {A : Option Addr} {n c : Nat} (x : ByteArray) (h : OwnL w base (.slice A n c) U) (hn : n = U.length) (hU : U.length ≤ 1000000) :
    Calls Try.prog 16 #[.slice A n c, .string x] w fun e w' => e = .returned (.bool (U.contains (lst x))) ∧ w = w' := by
  subst hn
  obtain ⟨A', c', e, hc, hrow⟩ := h.srow_
  injection e with e1 e2 e3
  subst e1; subst e3
  rcases Nat.eq_zero_or_pos U.length with h0 | h0
  · rw [h0]
    have : U = [] := List.length_eq_zero_iff.1 h0
    subst this
    refine (Try.slices_Contains_string_empty A c x w).mono ?_
    rintro e w1 ⟨rfl, rfl⟩
    exact ⟨rfl, rfl⟩
  · obtain ⟨b, o, rfl, hb, _⟩ := hrow 0 h0
    refine (Try.slices_Contains_string b o U.length c (U.map mkS) x w (by simp) (by omega) (fun j hj => ?_)).mono ?_
    · rw [List.length_map] at hj
      obtain ⟨b', o', e, _, hcell⟩ := hrow j hj
      injection e with e
      injection e with e1 e2
      subst e1; subst e2
      rw [hcell]
      simp [List.getD_eq_getElem?_getD, hj]
    rintro e w1 ⟨rfl, rfl⟩
    refine ⟨ret_bool ?_, rfl⟩
    rw [List.take_of_length_le (by simp), Bool.eq_iff_iff, Lib.containsS_iff, List.contains_iff_mem, List.mem_map]
    constructor
    · rintro ⟨u, hu, rfl⟩; rw [lst_mk]; exact hu
    · intro hm; exact ⟨lst x, hm, mk_lst x⟩
theorem pre_app (a b : ByteArray) (x : List UInt8) (h : lst b = lst a ++ x) : Lib.hasPrefix b.data.toList a.data.toList = true := by
  show (lst a).isPrefixOf (lst b) = true
  rw [h, List.isPrefixOf_iff_prefix]
  exact List.prefix_append _ _
set_option maxHeartbeats 1000000 in
theorem phraseBack_any (s : ByteArray) (_hs : s.size ≤ maxLen) (w : World) :
    Calls Try.prog 4 #[.string s] w fun e w' => e = .returned (.bool true) ∧ Below w.heap.size w w' := by
  by_cases hs : s.size ≤ 200
  · have hsl : (lst s).length ≤ 200 := by rw [lst_len]; exact hs
    obtain ⟨L, hL⟩ : ∃ L, L = (Ph.prun (lst s)).1 := ⟨_, rfl⟩
    have hlen : L.length ≤ 200 := by have := Ph.prun_len (lst s); rw [← hL] at this; omega
    have HG : Hid (Ph.Good L (Ph.prun (lst s)).2) := by have := Ph.prun_good (lst s); rw [← hL] at this; exact this
    have HBK : Hid (Ph.getP L (lst (mkS (Ph.prest (lst s)))) = (0, lst s)) := by unfold Hid; rw [lst_mk, hL]; exact Ph.getP_back hsl
    have HTK : Hid (∀ k, Ph.getP (L.take k) (lst ⟨#[]⟩) = (0, (Ph.tx (L.take k)).flatten)) := by unfold Hid; rw [hL]; exact fun k => Ph.getP_take hsl k
    have HFL : Hid (∀ k, (Ph.tx (L.take k)).flatten.length ≤ 200) := by
      intro k
      have h1 := Ph.prun_flat hsl
      have h2 := Ph.flat_le (L := (Ph.prun (lst s)).1) (k := k)
      rw [hL]
      omega
    have HSS : Hid (mkS (lst s) = s) := mk_lst s
    have HLL := hid hL
    obtain ⟨r, hr⟩ : ∃ r, r = mkS (Ph.prest (lst s)) := ⟨_, rfl⟩
    have HR := hid hr
    rw [← hr] at HBK
    clear hL hr
    go_enter Try.func4, Try.ntmps4
    go_wp2_with fail
    with_reducible refine (phrases_ok _).mono ?_
    rintro e w1 ⟨rfl, hb1⟩
    have HB1 := hid hb1
    clear hb1
    go_wp2_with fail
    with_reducible refine (Put_ok s _ hs).mono ?_
    rw [← HLL.out, ← HR.out]
    rintro e w2 ⟨v, rfl, hown, hb⟩
    obtain ⟨A, c, rfl, hc, hrow⟩ := hown.row
    have HB2 := hid (bl_then HB1.out hb)
    have HW := hid hrow
    clear hown hb hrow HB1
    go_wp2_with fail
    with_reducible refine (Get_any r _ HW.out).mono ?_
    rw [phs_of, HBK.out]
    dsimp only
    rw [HSS.out]
    rintro e w3 ⟨rfl, hb⟩
    have HW3 : Hid (PRow w3 A L.length (fun k => L.getD k (0, 0))) := HW.out.keep hb
    have HB3 := hid (bl_then HB2.out hb)
    clear hb HW HB2
    go_wp2
    go_loopw [39, 8] (fun x tv wr => ∃ k : Nat, ∃ vv, vv = tv ∧ k ≤ L.length ∧ x = .int .i64 (k : Int) ∧ Hid (OwnL wr w3.heap.size vv (Ph.first L k)) ∧ Hid (Below w3.heap.size w3 wr)) (fun x _ _ => L.length - (intOf x).toNat)
    case atStart => exact ⟨0, _, rfl, by omega, rfl, OwnL.zero _ _, Below.refl _ _⟩
    case round =>
      obtain ⟨k, vv, rfl, hk, rfl, HO, HB⟩ := hrel
      have HW : Hid (PRow wr A L.length (fun k => L.getD k (0, 0))) := HW3.out.keep HB.out
      by_cases hlt : k < L.length
      · have hlt' : (k : Int) < (L.length : Int) := by omega
        have hkc : (k : Int) ≤ (c : Int) := by omega
        have hkc1 : (k : Int) + 1 ≤ (c : Int) := by omega
        have HU : Hid ((Ph.first L k).length = k) := Ph.first_len hk
        have HN : Hid ((Ph.first L k).contains ((Ph.tx L).getD (k + 1) []) = false) := by
          have := Ph.first_new HG.out hlt
          unfold Hid
          rw [Bool.eq_false_iff]
          intro h
          exact this (List.contains_iff_mem.1 h)
        have HF : Hid ((Ph.tx (L.take (k + 1))).flatten = (Ph.tx (L.take k)).flatten ++ (Ph.tx L).getD (k + 1) []) := Ph.take_flat HG.out.ok hlt
        obtain ⟨Av, cv, rfl, hcv, hrow⟩ := HO.out.srow_
        clear hcv hrow
        go_wp2_with fail
        with_reducible refine (Get_any (n := k) ⟨#[]⟩ _ (HW.out.less hk)).mono ?_
        rw [phs_take L hk, HTK.out]
        dsimp only
        rintro e w4 ⟨rfl, hb⟩
        have HB4 := hid (bl_then HB.out hb)
        have HW4 : Hid (PRow w4 A L.length (fun k => L.getD k (0, 0))) := HW.out.keep hb
        have HO4 := hid (HO.out.low_ hb)
        clear hb HB HW HO
        have HF1 := HFL.out k
        have HF2 := HFL.out (k + 1)
        obtain ⟨a0, ha0⟩ : ∃ a0, a0 = mkS (Ph.tx (L.take k)).flatten := ⟨_, rfl⟩
        obtain ⟨b0, hb0⟩ : ∃ b0, b0 = mkS (Ph.tx (L.take (k + 1))).flatten := ⟨_, rfl⟩
        have hza : a0.size ≤ 200 := by rw [ha0, mk_size]; exact HF1
        have hab : lst b0 = lst a0 ++ (Ph.tx L).getD (k + 1) [] := by rw [hb0, ha0, lst_mk, lst_mk]; exact HF.out
        have hzz : a0.size ≤ b0.size := by rw [← lst_len, ← lst_len, hab, List.length_append]; omega
        have HX : Hid (lst (b0.extract a0.size b0.size) = (Ph.tx L).getD (k + 1) []) := by
          unfold Hid
          rw [lst_drop, hab, ← lst_len a0, List.drop_left]
        have HPR : Hid (Lib.hasPrefix b0.data.toList a0.data.toList = true) := pre_app a0 b0 _ hab
        have hzI : (a0.size : Int) ≤ (b0.size : Int) := by omega
        have HB0 := hid hb0
        rw [← ha0]
        clear HF HF1 HF2 ha0 hb0 hab
        go_wp2_with fail
        with_reducible refine (Get_any (n := k + 1) ⟨#[]⟩ _ (HW4.out.less (Nat.succ_le_of_lt hlt))).mono ?_
        rw [phs_take L (Nat.succ_le_of_lt hlt), HTK.out]
        dsimp only
        rw [← HB0.out]
        rintro e w5 ⟨rfl, hb⟩
        have HB5 := hid (bl_then HB4.out hb)
        have HW5 : Hid (PRow w5 A L.length (fun k => L.getD k (0, 0))) := HW4.out.keep hb
        have HO5 := hid (HO4.out.low_ hb)
        clear hb HB4 HW4 HO4 HB0
        go_wp2_with fail
        with_reducible refine (good_ok _ 2 2 _ (by decide) (two_zeros _ _)).mono ?_
        rintro e w6 ⟨rfl, hw6⟩
        have HB6 : Hid (Below w3.heap.size w3 w6) := by rw [← hw6]; exact bl_then HB5.out (bl_new w5 _)
        have HW6 : Hid (PRow w6 A L.length (fun k => L.getD k (0, 0))) := by rw [← hw6]; exact HW5.out.keep (bl_new w5 _)
        have HO6 : Hid (OwnL w6 w3.heap.size (.slice Av (Ph.first L k).length cv) (Ph.first L k)) := by rw [← hw6]; exact HO5.out.low_ (bl_new w5 _)
        clear hw6 HB5 HW5 HO5
        go_wp2_with fail
        with_reducible refine (Try.strings_HasPrefix b0 a0 _).mono ?_
        rw [HPR.out]
        rintro e w7 ⟨rfl, hw7⟩
        obtain rfl : w6 = w7 := hw7.symm
        clear HPR
        go_wp2_with fail
        with_reducible refine (has_own _ HO6.out rfl (by rw [HU.out]; omega)).mono ?_
        rw [HX.out, HN.out]
        rintro e w8 ⟨rfl, hw8⟩
        obtain rfl : w6 = w8 := hw8
        have hs6 := HB6.out.size
        have HR16 : Hid (((Ph.first L k).length + 1) * 16 ≤ 140737488355328) := by have := HU.out; unfold Hid; omega
        clear HN
        go_wp2_with (first
          | (at_builtin; with_reducible refine app_lst3 (v := .slice Av (Ph.first L k).length cv) rfl _ _ rfl rfl HO6.out w6.heap.size rfl rfl hs6 HR16.out ?_; intro v4 w4 hown4 hb4 hg4 hor4; have HOn : Hid (OwnL w4 w3.heap.size v4 (Ph.first L (k + 1))) := (by have := hown4; rw [HX.out, ← Ph.first_succ hlt] at this; exact hid this); have HBn : Hid (Below w3.heap.size w3 w4) := hid (HB6.out.trans hb4); clear hown4 hb4 hg4 hor4)
          | go_in)
        go_roundw
        case rel => exact ⟨k + 1, _, rfl, by omega, by go_num, HOn, HBn⟩
        case measure => simp [intOf]; omega
      · obtain rfl : k = L.length := by omega
        obtain ⟨Av, cv, rfl, hcv, hrow⟩ := HO.out.srow_
        have hd : decide ((L.length : Int) < (L.length : Int)) = false := decide_eq_false (by omega)
        have hss : (s.toList == s.toList) = true := beq_self_eq_true _
        have HU : Hid ((Ph.first L L.length).length = L.length) := Ph.first_len (Nat.le_refl _)
        by_cases hre : r.size = 0
        · have hb := no_bytes hre
          clear hcv hrow HO HW
          go_wp2
          go_ret
          exact ⟨rfl, bl_then HB3.out HB.out⟩
        · have hb := some_bytes (s := r) (by omega)
          have HN : Hid ((Ph.first L L.length).contains (lst r) = true) := by
            unfold Hid
            have e : lst r = (Ph.tx L).getD (Ph.prun (lst s)).2 [] := by rw [HR.out, lst_mk]; unfold Ph.prest; rw [← HLL.out]
            rw [List.contains_iff_mem, e]
            refine Ph.first_all HG.out ?_
            rw [← e]
            intro h
            exact hre (by rw [← lst_len, h]; rfl)
          clear hcv hrow
          go_wp2_with fail
          with_reducible refine (has_own _ HO.out rfl (by rw [HU.out]; omega)).mono ?_
          rw [HN.out]
          rintro e w8 ⟨rfl, hw8⟩
          obtain rfl : _ = w8 := hw8
          clear HN HW HO
          go_wp2
          go_ret
          exact ⟨rfl, bl_then HB3.out HB.out⟩
  · go_enter Try.func4, Try.ntmps4
    go_wp2_with fail
    with_reducible refine (phrases_ok _).mono ?_
    rintro e w1 ⟨rfl, hb1⟩
    go_wp2_with fail
    with_reducible refine (Put_large s _ (by omega)).mono ?_
    rintro e w2 ⟨rfl, rfl⟩
    have hbb : ((ByteArray.empty).toList == (⟨#[]⟩ : ByteArray).toList) = true := beq_self_eq_true _
    go_wp2
    go_ret
    exact ⟨rfl, hb1⟩
end Go.Proofs.Ytpifmahnlapdbaa
