
/-
The contract of quillref.TextOf.
-/
import Derived.Test.YtpifmahnlapdbaaRefPh
namespace Go.Proofs.Ytpifmahnlapdbaa
open Go.RowKit

set_option maxRecDepth 100000 in
set_option maxHeartbeats 2000000 in
theorem textLoop {A : Option Addr} {n c : Nat} {h : Nat → Ph.P} (rest : ByteArray) (w : World) (hr : PRow w A n h) (hn : n ≤ 200) (hrest : rest.size ≤ 200) :
    Calls Try.prog 12 #[.slice A n c, .string rest] w fun e w' => e = .returned (.tuple #[.string (mkS (Ph.getP (phs h n) (lst rest)).2), .int .i64 ((Ph.getP (phs h n) (lst rest)).1 : Nat)]) ∧ Below w.heap.size w w' := by
  obtain ⟨J, hJ⟩ : ∃ J, J = Ph.gj [[]] [] (phs h n) := ⟨_, rfl⟩
  have hl := lst_len rest
  have hp := phs_len h n
  have HG : Hid (Ph.getP (phs h n) (lst rest) = if J.1 = 0 then (if 200 < (J.2 ++ lst rest).length then (2, []) else (0, J.2 ++ lst rest)) else (J.1, [])) := by
    unfold Hid Ph.getP
    rw [if_neg (by omega), if_neg (by omega), ← hJ]
  have H := hid hr
  have HJ : Hid (Ph.gj [[]] [] ((phs h n).drop 0) = J) := hJ.symm
  have hdr : decide ((200 : Int) < (rest.size : Int)) = false := decide_eq_false (by omega)
  have hdn : decide ((200 : Int) < (n : Int)) = false := decide_eq_false (by omega)
  clear hr hJ hl hp
  go_enter Try.func12, Try.ntmps12
  go_wp2
  clear hdr hdn
  go_loopw [21, 6, 7] (fun x so to wr => ∃ k : Nat, ∃ U out vv, vv = to ∧ k ≤ n ∧ Hid (U.length = k) ∧ out.length ≤ 200 ∧ Hid (∀ t ∈ [] :: U, t.length ≤ 200) ∧ x = .int .i64 (k : Int) ∧ so = .string (mkS out) ∧ Hid (Ph.gj ([] :: U) out ((phs h n).drop k) = J) ∧ Hid (OwnL wr w.heap.size vv U) ∧ Hid (Below w.heap.size w wr)) (fun x _ _ _ => n - (intOf x).toNat)
  case atStart => exact ⟨0, [], [], _, rfl, by omega, rfl, by simp, hid (by simp), rfl, rfl, HJ, OwnL.zero _ _, Below.refl _ _⟩
  case round =>
    clear HJ
    obtain ⟨k, U, out, vv, rfl, hk, HT1, hout, HT, rfl, rfl, HJ, HO, HB⟩ := hrel
    by_cases hlt : k < n
    · have hlt' : (k : Int) < (n : Int) := by omega
      obtain ⟨b0, o0, rfl, hbl, hc0, hd0⟩ := H.out k hlt
      have hck := (HB.out.cell (p := ⟨b0, o0 + k * 2, none⟩) hbl).trans hc0
      have hdk := (HB.out.cell (p := ⟨b0, o0 + k * 2 + 1, none⟩) hbl).trans hd0
      have HD : Hid ((phs h n).drop k = ((h k).1, (h k).2) :: (phs h n).drop (k + 1)) := phs_drop hlt
      obtain ⟨bk, hbk⟩ : ∃ bk, bk = (h k).1 := ⟨_, rfl⟩
      obtain ⟨c, hc⟩ : ∃ c, c = (h k).2 := ⟨_, rfl⟩
      rw [← hbk] at hck HD
      rw [← hc] at hdk HD
      have HB1 : Hid (Below w.heap.size w (wr.alloc (.cells #[.int .i64 bk, .int .u8 (c.toNat : Int)] 33))) := HB.out.alloc HB.out.size _
      clear hc0 hd0 hbk hc hbl
      obtain ⟨At, ct, rfl, hct, hrow⟩ := HO.out.srow_
      by_cases hneg : bk < 0
      · have hdt : decide (bk < 0) = true := decide_eq_true hneg
        have hE : J = (1, []) := by rw [← HJ.out, HD.out]; exact Ph.gj_arg (.inl hneg)
        have HE : Hid (Ph.getP (phs h n) (lst rest) = (1, [])) := by unfold Hid; rw [HG.out, hE]; rfl
        clear hE HJ HD HO hrow HG
        go_wp2
        go_ret2
        rw [HE.out]
        exact ⟨rfl, HB1.out⟩
      · by_cases hge : (k : Int) < bk
        · have hdt : decide (bk < 0) = false := decide_eq_false hneg
          have hE : J = (1, []) := by rw [← HJ.out, HD.out]; exact Ph.gj_arg (.inr (by rw [List.length_cons, HT1.out]; omega))
          have HE : Hid (Ph.getP (phs h n) (lst rest) = (1, [])) := by unfold Hid; rw [HG.out, hE]; rfl
          clear hE HJ HD HO hrow HG
          go_wp2
          go_ret2
          rw [HE.out]
          exact ⟨rfl, HB1.out⟩
        · have hdt : decide (bk < 0) = false := decide_eq_false hneg
          have hdg : decide ((k : Int) < bk) = false := decide_eq_false hge
          obtain ⟨one, hone⟩ : ∃ one, one = mkS [c] := ⟨_, rfl⟩
          have hz1 : one.size = 1 := by rw [hone, mk_size]; rfl
          have hcv := conv_byte (wr.alloc (.cells #[.int .i64 bk, .int .u8 (c.toNat : Int)] 33)) c
          have e1 : (wr.alloc (.cells #[.int .i64 bk, .int .u8 (c.toNat : Int)] 33)).heap.size = wr.heap.size + 1 := by simp
          rw [e1, ← hone] at hcv
          have HO1 : Hid (OwnL ((wr.alloc (.cells #[.int .i64 bk, .int .u8 (c.toNat : Int)] 33)).alloc (.cells #[.int .u8 (c.toNat : Int)] 5)) w.heap.size (.slice At U.length ct) U) := (World.ownsRow.alloc (World.ownsRow.alloc HO.out _) _)
          have HB2 : Hid (Below w.heap.size w ((wr.alloc (.cells #[.int .i64 bk, .int .u8 (c.toNat : Int)] 33)).alloc (.cells #[.int .u8 (c.toNat : Int)] 5))) := HB1.out.alloc HB1.out.size _
          have HR16 : Hid ((U.length + 1) * 16 ≤ 140737488355328) := by have := HT1.out; unfold Hid; omega
          have hs2 := HB2.out.size
          obtain ⟨so, hso⟩ : ∃ so, so = mkS out := ⟨_, rfl⟩
          have hzs : so.size ≤ 200 := by rw [hso, mk_size]; exact hout
          rw [← hso]
          by_cases hpos : 0 < bk
          · obtain ⟨bn, rfl⟩ : ∃ bn : Nat, bk = (bn : Int) := ⟨bk.toNat, by omega⟩
            obtain ⟨b, hbn⟩ : ∃ b : Nat, bn = b + 1 := ⟨bn - 1, by omega⟩
            have esub : (bn : Int) - 1 = (b : Int) := by omega
            have esw : IntKind.i64.wrap (b : Int) = (b : Int) := IntWalk.i64_in _ (by omega)
            have hb : b < U.length := by rw [HT1.out]; omega
            have hbU : (b : Int) < (U.length : Int) := by omega
            have hbT : bn < ([] :: U).length := by rw [List.length_cons]; omega
            have HT0 : Hid (([] :: U).getD bn [] = U.getD b []) := by rw [hbn]; rfl
            obtain ⟨bt, ot, rfl, hbt, hcell⟩ := hrow b hb
            obtain ⟨t0, ht0⟩ : ∃ t0, t0 = mkS (([] :: U).getD bn []) := ⟨_, rfl⟩
            have hcell1 := ((bl_new wr (.cells #[.int .i64 (bn : Int), .int .u8 (c.toNat : Int)] 33)).cell (p := ⟨bt, ot + b, none⟩) hbt).trans hcell
            dsimp only at hcell1
            rw [← HT0.out, ← ht0] at hcell1
            have HP := hid hpos
            clear hrow HO HB HB1 e1 hcell hbn
            have hmem : (([] :: U).getD bn []).length ≤ 200 := by
              rw [List.getD_eq_getElem?_getD, List.getElem?_eq_getElem hbT]
              exact HT.out _ (List.getElem_mem hbT)
            have hz0 : t0.size ≤ 200 := by rw [ht0, mk_size]; exact hmem
            have hbig : ¬ 9223372036854775807 < t0.size + one.size := by omega
            have HY : Hid (t0 ++ one = mkS (([] :: U).getD bn [] ++ [c])) := by unfold Hid; rw [ht0, hone, mk_app]
            have hzt : (t0 ++ one).size = t0.size + one.size := size_app _ _
            have HS : Hid (so ++ (t0 ++ one) = mkS (out ++ (([] :: U).getD bn [] ++ [c]))) := by unfold Hid; rw [hso, HY.out, ← mk_app]
            have hsl : (so ++ (t0 ++ one)).size = (out ++ (([] :: U).getD bn [] ++ [c])).length := by rw [HS.out, mk_size]
            have hbig2 : ¬ 9223372036854775807 < so.size + (t0 ++ one).size := by omega
            clear hmem ht0 hone hso
            have hsz : (so ++ (t0 ++ one)).size = so.size + (t0 ++ one).size := size_app _ _
            have hemp : (⟨#[]⟩ : ByteArray).size = 0 := rfl
            have HE2 : Hid (lst (t0 ++ one) = ([] :: U).getD bn [] ++ [c]) := by unfold Hid; rw [HY.out, lst_mk]
            by_cases hfit : (out ++ (([] :: U).getD bn [] ++ [c])).length ≤ 200
            · have HJn : Hid (Ph.gj ([] :: (U ++ [([] :: U).getD bn [] ++ [c]])) (out ++ (([] :: U).getD bn [] ++ [c])) ((phs h n).drop (k + 1)) = J) := by
                have := HJ.out
                rw [HD.out, Ph.gj_next hbT hfit] at this
                exact this
              have HTn : Hid ((U ++ [([] :: U).getD bn [] ++ [c]]).length = k + 1) := by unfold Hid; rw [List.length_append, HT1.out]; rfl
              have HTa : Hid (∀ t ∈ [] :: (U ++ [([] :: U).getD bn [] ++ [c]]), t.length ≤ 200) := by
                intro t ht
                rw [← List.cons_append] at ht
                rcases List.mem_append.1 ht with h | h
                · exact HT.out t h
                · rw [List.mem_singleton] at h
                  subst h
                  rw [List.length_append] at hfit
                  omega
              have hdf : decide ((200 : Int) < (so.size : Int) + ((t0.size : Int) + 1)) = false := decide_eq_false (by omega)
              have hdf2 : (so.size : Int) + ((t0.size : Int) + 1) ≤ 200 := by omega
              have HS2 : Hid (Value.string (so ++ (t0 ++ one)) = .string (mkS (out ++ (([] :: U).getD bn [] ++ [c])))) := by unfold Hid; rw [HS.out]
              clear hsl hzt hsz hemp HY HS HJ HD HT HT1
              go_wp2_with (first
                | (at_builtin; with_reducible refine app_lst3 (v := .slice (some ⟨bt, ot, none⟩) U.length ct) rfl _ _ rfl rfl HO1.out (wr.heap.size + 2) (by simp) rfl (by simpa using hs2) HR16.out ?_; intro v4 w4 hown4 hb4 hg4 hor4; have HOn : Hid (OwnL w4 w.heap.size v4 (U ++ [([] :: U).getD bn [] ++ [c]])) := (by have := hown4; rw [HE2.out] at this; exact hid this); have HBn : Hid (Below w.heap.size w w4) := hid (HB2.out.trans hb4); clear hown4 hb4 hg4 hor4)
                | go_in)
              go_roundw
              case rel => exact ⟨k + 1, _, _, _, rfl, by omega, HTn, hfit, HTa, by go_num, HS2.out, HJn, HOn, HBn⟩
              case measure => simp [intOf]; omega
            · have hE : J = (2, []) := by
                rw [← HJ.out, HD.out]
                exact Ph.gj_large hbT (by omega)
              have HE : Hid (Ph.getP (phs h n) (lst rest) = (2, [])) := by unfold Hid; rw [HG.out, hE]; rfl
              have hdf : decide ((200 : Int) < (so.size : Int) + ((t0.size : Int) + 1)) = true := decide_eq_true (by omega)
              have hdf2 : (200 : Int) < (so.size : Int) + ((t0.size : Int) + 1) := by omega
              clear hsl hzt hsz hemp hE HY HS HJ HD HT HT1 HG
              go_wp2_with (first
                | (at_builtin; with_reducible refine app_lst3 (v := .slice (some ⟨bt, ot, none⟩) U.length ct) rfl _ _ rfl rfl HO1.out (wr.heap.size + 2) (by simp) rfl (by simpa using hs2) HR16.out ?_; intro v4 w4 hown4 hb4 hg4 hor4; have HOn : Hid (OwnL w4 w.heap.size v4 (U ++ [([] :: U).getD bn [] ++ [c]])) := (by have := hown4; rw [HE2.out] at this; exact hid this); have HBn : Hid (Below w.heap.size w w4) := hid (HB2.out.trans hb4); clear hown4 hb4 hg4 hor4)
                | go_in)
              go_ret2
              rw [HE.out]
              exact ⟨rfl, HBn.out⟩
          · obtain ⟨bn, rfl⟩ : ∃ bn : Nat, bk = (bn : Int) := ⟨bk.toNat, by omega⟩
            have hbn : bn = 0 := by omega
            have hd0 : decide ((0 : Int) < (bn : Int)) = false := decide_eq_false (by omega)
            have hbT : bn < ([] :: U).length := by rw [List.length_cons]; omega
            obtain ⟨t0, ht0⟩ : ∃ t0, t0 = mkS (([] :: U).getD bn []) := ⟨_, rfl⟩
            have hcell1 : t0 = ⟨#[]⟩ := by rw [ht0, hbn]; rfl
            have HC1 := hid hcell1
            clear hrow HO HB HB1 e1 hbn hcell1
            have hmem : (([] :: U).getD bn []).length ≤ 200 := by
              rw [List.getD_eq_getElem?_getD, List.getElem?_eq_getElem hbT]
              exact HT.out _ (List.getElem_mem hbT)
            have hz0 : t0.size ≤ 200 := by rw [ht0, mk_size]; exact hmem
            have hx0 : t0 = ⟨#[]⟩ := HC1.out
            have hbig : ¬ 9223372036854775807 < t0.size + one.size := by omega
            have HY : Hid (t0 ++ one = mkS (([] :: U).getD bn [] ++ [c])) := by unfold Hid; rw [ht0, hone, mk_app]
            have hzt : (t0 ++ one).size = t0.size + one.size := size_app _ _
            have HS : Hid (so ++ (t0 ++ one) = mkS (out ++ (([] :: U).getD bn [] ++ [c]))) := by unfold Hid; rw [hso, HY.out, ← mk_app]
            have hsl : (so ++ (t0 ++ one)).size = (out ++ (([] :: U).getD bn [] ++ [c])).length := by rw [HS.out, mk_size]
            have hbig2 : ¬ 9223372036854775807 < so.size + (t0 ++ one).size := by omega
            rw [hx0] at HY hzt HS hsl hbig2 hbig
            clear hmem ht0 hone hso hx0 HC1
            have hsz : (so ++ ((⟨#[]⟩ : ByteArray) ++ one)).size = so.size + ((⟨#[]⟩ : ByteArray) ++ one).size := size_app _ _
            have hemp : (⟨#[]⟩ : ByteArray).size = 0 := rfl
            have HE2 : Hid (lst ((⟨#[]⟩ : ByteArray) ++ one) = ([] :: U).getD bn [] ++ [c]) := by unfold Hid; rw [HY.out, lst_mk]
            by_cases hfit : (out ++ (([] :: U).getD bn [] ++ [c])).length ≤ 200
            · have HJn : Hid (Ph.gj ([] :: (U ++ [([] :: U).getD bn [] ++ [c]])) (out ++ (([] :: U).getD bn [] ++ [c])) ((phs h n).drop (k + 1)) = J) := by
                have := HJ.out
                rw [HD.out, Ph.gj_next hbT hfit] at this
                exact this
              have HTn : Hid ((U ++ [([] :: U).getD bn [] ++ [c]]).length = k + 1) := by unfold Hid; rw [List.length_append, HT1.out]; rfl
              have HTa : Hid (∀ t ∈ [] :: (U ++ [([] :: U).getD bn [] ++ [c]]), t.length ≤ 200) := by
                intro t ht
                rw [← List.cons_append] at ht
                rcases List.mem_append.1 ht with h | h
                · exact HT.out t h
                · rw [List.mem_singleton] at h
                  subst h
                  rw [List.length_append] at hfit
                  omega
              have hdf : decide ((200 : Int) < (so.size : Int) + 1) = false := decide_eq_false (by omega)
              have hdf2 : (so.size : Int) + 1 ≤ 200 := by omega
              have HS2 : Hid (Value.string (so ++ ((⟨#[]⟩ : ByteArray) ++ one)) = .string (mkS (out ++ (([] :: U).getD bn [] ++ [c])))) := by unfold Hid; rw [HS.out]
              clear hsl hzt hsz hemp HY HS HJ HD HT HT1
              go_wp2_with (first
                | (at_builtin; with_reducible refine app_lst3 (v := .slice At U.length ct) rfl _ _ rfl rfl HO1.out (wr.heap.size + 2) (by simp) rfl (by simpa using hs2) HR16.out ?_; intro v4 w4 hown4 hb4 hg4 hor4; have HOn : Hid (OwnL w4 w.heap.size v4 (U ++ [([] :: U).getD bn [] ++ [c]])) := (by have := hown4; rw [HE2.out] at this; exact hid this); have HBn : Hid (Below w.heap.size w w4) := hid (HB2.out.trans hb4); clear hown4 hb4 hg4 hor4)
                | go_in)
              go_roundw
              case rel => exact ⟨k + 1, _, _, _, rfl, by omega, HTn, hfit, HTa, by go_num, HS2.out, HJn, HOn, HBn⟩
              case measure => simp [intOf]; omega
            · have hE : J = (2, []) := by
                rw [← HJ.out, HD.out]
                exact Ph.gj_large hbT (by omega)
              have HE : Hid (Ph.getP (phs h n) (lst rest) = (2, [])) := by unfold Hid; rw [HG.out, hE]; rfl
              have hdf : decide ((200 : Int) < (so.size : Int) + 1) = true := decide_eq_true (by omega)
              have hdf2 : (200 : Int) < (so.size : Int) + 1 := by omega
              clear hsl hzt hsz hemp hE HY HS HJ HD HT HT1 HG
              go_wp2_with (first
                | (at_builtin; with_reducible refine app_lst3 (v := .slice At U.length ct) rfl _ _ rfl rfl HO1.out (wr.heap.size + 2) (by simp) rfl (by simpa using hs2) HR16.out ?_; intro v4 w4 hown4 hb4 hg4 hor4; have HOn : Hid (OwnL w4 w.heap.size v4 (U ++ [([] :: U).getD bn [] ++ [c]])) := (by have := hown4; rw [HE2.out] at this; exact hid this); have HBn : Hid (Below w.heap.size w w4) := hid (HB2.out.trans hb4); clear hown4 hb4 hg4 hor4)
                | go_in)
              go_ret2
              rw [HE.out]
              exact ⟨rfl, HBn.out⟩
    · have hd : decide ((k : Int) < (n : Int)) = false := decide_eq_false (by omega)
      obtain rfl : n = k := by omega
      have hE : J = (0, out) := by
        have := HJ.out
        rw [phs_end] at this
        exact this.symm
      have HG2 : Hid (Ph.getP (phs h n) (lst rest) = if 200 < (out ++ lst rest).length then (2, []) else (0, out ++ lst rest)) := by
        unfold Hid
        rw [HG.out, hE]
        rfl
      obtain ⟨so, hso⟩ : ∃ so, so = mkS out := ⟨_, rfl⟩
      have hzs : so.size ≤ 200 := by rw [hso, mk_size]; exact hout
      have hzl : so.size + rest.size = (out ++ lst rest).length := by rw [hso, mk_size, List.length_append, lst_len]
      have HS : Hid (so ++ rest = mkS (out ++ lst rest)) := by unfold Hid; rw [hso, mk_app, mk_lst]
      obtain ⟨z, hz⟩ : ∃ z, z = so.size + rest.size := ⟨_, rfl⟩
      have ez : (so.size : Int) + (rest.size : Int) = (z : Int) := by omega
      have ezw : IntKind.i64.wrap (z : Int) = (z : Int) := IntWalk.i64_in _ (by omega)
      have hbig : ¬ 9223372036854775807 < so.size + rest.size := by omega
      rw [← hso]
      clear HJ HO hE HT HT1 HG hso
      by_cases hfit : 200 < z
      · have hdz : decide ((200 : Int) < (z : Int)) = true := decide_eq_true (by omega)
        have HE : Hid (Ph.getP (phs h n) (lst rest) = (2, [])) := by unfold Hid; rw [HG2.out, if_pos (by omega)]
        clear HG2 HS hzl hz
        go_wp2
        go_ret2
        rw [HE.out]
        exact ⟨rfl, HB.out⟩
      · have hdz : decide ((200 : Int) < (z : Int)) = false := decide_eq_false (by omega)
        have HE : Hid (Ph.getP (phs h n) (lst rest) = (0, out ++ lst rest)) := by unfold Hid; rw [HG2.out, if_neg (by omega)]
        clear HG2 hzl hz
        go_wp2
        go_ret2
        rw [HE.out]
        exact ⟨by rw [HS.out]; rfl, HB.out⟩
/-- What TextOf answers. -/
theorem TextOf_any {A : Option Addr} {n c : Nat} {h : Nat → Ph.P} (rest : ByteArray) (w : World) (hr : PRow w A n h) :
    Calls Try.prog 12 #[.slice A n c, .string rest] w fun e w' => e = .returned (.tuple #[.string (mkS (Ph.getP (phs h n) (lst rest)).2), .int .i64 ((Ph.getP (phs h n) (lst rest)).1 : Nat)]) ∧ Below w.heap.size w w' := by
  have hl := lst_len rest
  have hp := phs_len h n
  by_cases h1 : 200 < rest.size
  · have HE : Hid (Ph.getP (phs h n) (lst rest) = (2, [])) := by unfold Hid Ph.getP; rw [if_pos (by omega)]
    have hd : decide ((200 : Int) < (rest.size : Int)) = true := decide_eq_true (by omega)
    clear hl hp
    go_enter Try.func12, Try.ntmps12
    go_wp2
    go_ret2
    rw [HE.out]
    exact ⟨rfl, Below.refl _ _⟩
  · by_cases h2 : 200 < n
    · have HE : Hid (Ph.getP (phs h n) (lst rest) = (2, [])) := by unfold Hid Ph.getP; rw [if_neg (by omega), if_pos (by omega)]
      have hd : decide ((200 : Int) < (rest.size : Int)) = false := decide_eq_false (by omega)
      have hd2 : decide ((200 : Int) < (n : Int)) = true := decide_eq_true (by omega)
      clear hl hp
      go_enter Try.func12, Try.ntmps12
      go_wp2
      go_ret2
      rw [HE.out]
      exact ⟨rfl, Below.refl _ _⟩
    · exact textLoop rest w hr (by omega) (by omega)
end Go.Proofs.Ytpifmahnlapdbaa
