
/-
The contract of phrase.join and phrase.Get.
-/
import Derived.Test.YtpifmahnlapdbaaPhPut
import Derived.Deep.RegionHeld3
namespace Go.Proofs.Ytpifmahnlapdbaa
open Go.RowKit

theorem byte_str (b : Int) : strOfNums [b] = ⟨#[b.toNat.toUInt8]⟩ := rfl
theorem byte_lit (c : UInt8) : (⟨#[((c.toNat : Int)).toNat.toUInt8]⟩ : ByteArray) = mkS [c] := by
  unfold mkS
  simp
theorem new_byte (w : World) (v : Value) (t : TypeId) : (w.alloc (.cells #[v] t)).cell? ⟨w.heap.size, 0, none⟩ = some v := by simp
/-- 'string([]byte{c})'. -/
theorem conv_byte (w : World) (c : UInt8) : (convert 48 9 (.slice (some ⟨w.heap.size, 0, none⟩) 1 1)).run Try.prog (w.alloc (.cells #[.int .u8 (c.toNat : Int)] 5)) = .ok (.string (mkS [c])) (w.alloc (.cells #[.int .u8 (c.toNat : Int)] 5)) := by
  have hcv := run_convert_bytes_arg (P := Try.prog) (w.alloc (.cells #[.int .u8 (c.toNat : Int)] 5)) 48 5 Try.underlying48 Try.underlying5 w.heap.size 0 1 1 [(c.toNat : Int)] rfl (fun i hi => by
    obtain rfl : i = 0 := by omega
    exact new_byte _ _ _) 9 Try.underlying9
  rw [byte_str, byte_lit] at hcv
  exact hcv
theorem conv_byte' (w : World) (c : UInt8) : (convert 48 9 (.slice (some ⟨w.heap.size, 0, none⟩) 1 1)).run Try.prog (w.alloc (.cells #[.int .u8 (c.toNat : Int)] 5)).drew = .ok (.string (mkS [c])) (w.alloc (.cells #[.int .u8 (c.toNat : Int)] 5)).drew := by
  have hcv := run_convert_bytes_arg (P := Try.prog) (w.alloc (.cells #[.int .u8 (c.toNat : Int)] 5)).drew 48 5 Try.underlying48 Try.underlying5 w.heap.size 0 1 1 [(c.toNat : Int)] rfl (fun i hi => by
    obtain rfl : i = 0 := by omega
    exact new_byte _ _ _) 9 Try.underlying9
  rw [byte_str, byte_lit] at hcv
  exact hcv
set_option maxHeartbeats 1000000 in
theorem join_any {A : Option Addr} {n c : Nat} {h : Nat → Ph.P} (w : World) (hr : PRow w A n h) (hn : n ≤ 200) :
    Calls Try.prog 23 #[.slice A n c] w fun e w' => e = .returned (.tuple #[.string (mkS (Ph.gj [[]] [] (phs h n)).2), .int .i64 ((Ph.gj [[]] [] (phs h n)).1 : Nat)]) ∧ Below w.heap.size w w' := by
  obtain ⟨J, hJ⟩ : ∃ J, J = Ph.gj [[]] [] (phs h n) := ⟨_, rfl⟩
  have H := hid hr
  have HJ : Hid (Ph.gj [[]] [] ((phs h n).drop 0) = J) := hJ.symm
  rw [← hJ]
  have HO0 : Hid (OwnL (w.alloc (.cells #[.string ⟨#[]⟩] 9)) w.heap.size (.slice (some ⟨w.heap.size, 0, none⟩) 1 1) [[]]) := OwnL.lit1 w [] _ rfl
  have HB0 : Hid (Below w.heap.size w (w.alloc (.cells #[.string ⟨#[]⟩] 9))) := bl_new w _
  clear hr hJ
  go_enter Try.func23, Try.ntmps23
  go_wp2
  go_loopw [13, 4, 5] (fun x so to wr => ∃ k : Nat, ∃ T out vv, vv = to ∧ k ≤ n ∧ Hid (T.length = k + 1) ∧ out.length ≤ 200 ∧ Hid (∀ t ∈ T, t.length ≤ 200) ∧ x = .int .i64 (k : Int) ∧ so = .string (mkS out) ∧ Hid (Ph.gj T out ((phs h n).drop k) = J) ∧ Hid (OwnL wr w.heap.size vv T) ∧ Hid (Below w.heap.size w wr)) (fun x _ _ _ => n - (intOf x).toNat)
  case atStart => exact ⟨0, [[]], [], _, rfl, by omega, rfl, by simp, hid (by simp), rfl, rfl, HJ, HO0, HB0⟩
  case round =>
    clear HO0 HB0 HJ
    obtain ⟨k, T, out, vv, rfl, hk, HT1, hout, HT, rfl, rfl, HJ, HO, HB⟩ := hrel
    by_cases hlt : k < n
    · have hlt' : (k : Int) < (n : Int) := by omega
      obtain ⟨b0, o0, rfl, hbl, hc0, hd0⟩ := H.out k hlt
      have hck := (HB.out.cell (p := ⟨b0, o0 + k * 2, none⟩) hbl).trans hc0
      have hdk := (HB.out.cell (p := ⟨b0, o0 + k * 2 + 1, none⟩) hbl).trans hd0
      have HD : Hid ((phs h n).drop k = ((h k).1, (h k).2) :: (phs h n).drop (k + 1)) := phs_drop hlt
      obtain ⟨bk, hbk⟩ : ∃ bk, bk = (h k).1 := ⟨_, rfl⟩
      obtain ⟨c, hc⟩ : ∃ c, c = (h k).2 := ⟨_, rfl⟩
      rw [← hbk] at hck HD
      rw [← hc] at hdk HD
      have HB1 : Hid (Below w.heap.size w (wr.alloc (.cells #[.int .i64 bk, .int .u8 (c.toNat : Int)] 33))) := HB.out.alloc HB.out.size _
      clear hc0 hd0 hbk hc hbl
      obtain ⟨At, ct, rfl, hct, hrow⟩ := HO.out.srow_
      by_cases hneg : bk < 0
      · have hdt : decide (bk < 0) = true := decide_eq_true hneg
        have hE : J = (1, []) := by rw [← HJ.out, HD.out]; exact Ph.gj_arg (.inl hneg)
        have HE := hid hE
        clear hE HJ HD HO hrow
        go_wp2
        go_ret2
        rw [HE.out]
        exact ⟨rfl, HB1.out⟩
      · by_cases hge : (T.length : Int) ≤ bk
        · have hdt : decide (bk < 0) = false := decide_eq_false hneg
          have hE : J = (1, []) := by rw [← HJ.out, HD.out]; exact Ph.gj_arg (.inr hge)
          have HE := hid hE
          clear hE HJ HD HO hrow
          go_wp2
          go_ret2
          rw [HE.out]
          exact ⟨rfl, HB1.out⟩
        · obtain ⟨b, rfl⟩ : ∃ b : Nat, bk = (b : Int) := ⟨bk.toNat, by omega⟩
          have hb : b < T.length := by omega
          have hdt : decide ((b : Int) < 0) = false := decide_eq_false hneg
          have hdg : decide ((T.length : Int) ≤ (b : Int)) = false := decide_eq_false hge
          have hbI : (b : Int) < (T.length : Int) := by omega
          obtain ⟨bt, ot, rfl, hbt, hcell⟩ := hrow b hb
          obtain ⟨t0, ht0⟩ : ∃ t0, t0 = mkS (T.getD b []) := ⟨_, rfl⟩
          have hcell1 := ((bl_new wr (.cells #[.int .i64 (b : Int), .int .u8 (c.toNat : Int)] 33)).cell (p := ⟨bt, ot + b, none⟩) hbt).trans hcell
          dsimp only at hcell1
          rw [← ht0] at hcell1
          have hmem : (T.getD b []).length ≤ 200 := by
            rw [List.getD_eq_getElem?_getD, List.getElem?_eq_getElem hb]
            exact HT.out _ (List.getElem_mem hb)
          have hz0 : t0.size ≤ 200 := by rw [ht0, mk_size]; exact hmem
          obtain ⟨one, hone⟩ : ∃ one, one = mkS [c] := ⟨_, rfl⟩
          have hz1 : one.size = 1 := by rw [hone, mk_size]; rfl
          have hcv := conv_byte' (wr.alloc (.cells #[.int .i64 (b : Int), .int .u8 (c.toNat : Int)] 33)) c
          have e1 : (wr.alloc (.cells #[.int .i64 (b : Int), .int .u8 (c.toNat : Int)] 33)).heap.size = wr.heap.size + 1 := by simp
          rw [e1, ← hone] at hcv
          have hbig : ¬ 9223372036854775807 < t0.size + one.size := by omega
          have HY : Hid (t0 ++ one = mkS (T.getD b [] ++ [c])) := by unfold Hid; rw [ht0, hone, mk_app]
          have hzt : (t0 ++ one).size = t0.size + one.size := size_app _ _
          have HO1 : Hid (OwnL ((wr.alloc (.cells #[.int .i64 (b : Int), .int .u8 (c.toNat : Int)] 33)).alloc (.cells #[.int .u8 (c.toNat : Int)] 5)).drew w.heap.size (.slice (some ⟨bt, ot, none⟩) T.length ct) T) := (World.ownsRow.alloc (World.ownsRow.alloc HO.out _) _)
          clear e1 hcell ht0 hone hrow HO
          go_wp2
          go_region
          have HB2 : Hid (Below w.heap.size w ((wr.alloc (.cells #[.int .i64 (b : Int), .int .u8 (c.toNat : Int)] 33)).alloc (.cells #[.int .u8 (c.toNat : Int)] 5)).drew) := (HB1.out.alloc HB1.out.size _).drew
          clear hcv hcell1 hck hdk HB1 HB
          generalize ((wr.alloc (.cells #[.int .i64 (b : Int), .int .u8 (c.toNat : Int)] 33)).alloc (.cells #[.int .u8 (c.toNat : Int)] 5)).drew = w2 at *
          have hz3 : (t0 ++ one).size ≤ 201 := by omega
          clear hzt hz0 hz1 hbig hbI hdt hdg
          generalize t0 ++ one = tt at *
          obtain ⟨so, hso⟩ : ∃ so, so = mkS out := ⟨_, rfl⟩
          have hzs : so.size ≤ 200 := by rw [hso, mk_size]; exact hout
          have hbig : ¬ 9223372036854775807 < so.size + tt.size := by omega
          have hzz : (so ++ tt).size = so.size + tt.size := size_app _ _
          have HS : Hid (so ++ tt = mkS (out ++ (T.getD b [] ++ [c]))) := by unfold Hid; rw [hso, HY.out, ← mk_app]
          have hsl : (so ++ tt).size = (out ++ (T.getD b [] ++ [c])).length := by rw [HS.out, mk_size]
          rw [← hso]
          clear hso hzz hz3 hzs
          by_cases hfit : (out ++ (T.getD b [] ++ [c])).length ≤ 200
          · have HJn : Hid (Ph.gj (T ++ [T.getD b [] ++ [c]]) (out ++ (T.getD b [] ++ [c])) ((phs h n).drop (k + 1)) = J) := by
              have := HJ.out
              rw [HD.out, Ph.gj_next hb hfit] at this
              exact this
            have HTn : Hid ((T ++ [T.getD b [] ++ [c]]).length = k + 1 + 1) := by unfold Hid; rw [List.length_append, HT1.out]; rfl
            have HTa : Hid (∀ t ∈ T ++ [T.getD b [] ++ [c]], t.length ≤ 200) := by
              intro t ht
              rcases List.mem_append.1 ht with h | h
              · exact HT.out t h
              · rw [List.mem_singleton] at h
                subst h
                rw [List.length_append] at hfit
                omega
            have HR16 : Hid ((T.length + 1) * 16 ≤ 140737488355328) := by have := HT1.out; unfold Hid; omega
            have hzf : (so ++ tt).size ≤ 200 := by omega
            clear hsl
            go_wp2_with fail
            with_reducible refine (check_ok (so ++ tt) _ hzf).mono ?_
            rintro e w3 ⟨rfl, hw3⟩
            obtain rfl : w2 = w3 := hw3
            clear hbig
            generalize so ++ tt = st at *
            have e2 : lst tt = T.getD b [] ++ [c] := by rw [HY.out, lst_mk]
            have HE2 := hid e2
            have hs2 := HB2.out.size
            clear e2 hb hge
            go_wp2_with (first
              | (at_builtin; with_reducible refine app_lst3 (v := .slice (some ⟨bt, ot, none⟩) T.length ct) rfl _ _ rfl rfl HO1.out w2.heap.size rfl rfl hs2 HR16.out ?_; intro v4 w4 hown4 hb4 hg4 hor4)
              | go_in)
            have HOn : Hid (OwnL w4 w.heap.size v4 (T ++ [T.getD b [] ++ [c]])) := by have := hown4; rw [HE2.out] at this; exact this
            have HBn : Hid (Below w.heap.size w w4) := HB2.out.trans hb4
            have HS2 : Hid (Value.string st = .string (mkS (out ++ (T.getD b [] ++ [c])))) := by unfold Hid; rw [HS.out]
            clear hown4 hb4 hg4 hor4 HO1 HE2 HY HS HJ HD HT HT1
            go_roundw
            case rel => exact ⟨k + 1, _, _, _, rfl, by omega, HTn, hfit, HTa, by go_num, HS2.out, HJn, HOn, HBn⟩
            case measure => simp [intOf]; omega
          · have hE : J = (2, []) := by
              rw [← HJ.out, HD.out]
              exact Ph.gj_large hb (by omega)
            have HE := hid hE
            have hzf : 200 < (so ++ tt).size := by omega
            clear hsl hE HO1 HY HS HJ HD HT HT1 hb hge
            go_wp2_with fail
            with_reducible refine (check_large (so ++ tt) _ hzf).mono ?_
            rintro e w3 ⟨rfl, hw3⟩
            obtain rfl : w2 = w3 := hw3
            clear hbig hzf
            go_wp2
            go_ret2
            rw [HE.out]
            exact ⟨rfl, HB2.out⟩
    · have hd : decide ((k : Int) < (n : Int)) = false := decide_eq_false (by omega)
      obtain rfl : n = k := by omega
      have hE : J = (0, out) := by
        have := HJ.out
        rw [phs_end] at this
        exact this.symm
      have HE := hid hE
      clear HJ HO hE HT HT1
      go_wp2
      go_ret2
      rw [HE.out]
      exact ⟨rfl, HB.out⟩
/-- What Get answers. -/
theorem Get_any {A : Option Addr} {n c : Nat} {h : Nat → Ph.P} (rest : ByteArray) (w : World) (hr : PRow w A n h) :
    Calls Try.prog 8 #[.slice A n c, .string rest] w fun e w' => e = .returned (.tuple #[.string (mkS (Ph.getP (phs h n) (lst rest)).2), .int .i64 ((Ph.getP (phs h n) (lst rest)).1 : Nat)]) ∧ Below w.heap.size w w' := by
  have hl := lst_len rest
  have hp := phs_len h n
  by_cases h1 : 200 < rest.size
  · have HE : Hid (Ph.getP (phs h n) (lst rest) = (2, [])) := by unfold Hid Ph.getP; rw [if_pos (by omega)]
    clear hl hp
    go_enter Try.func8, Try.ntmps8
    go_wp2_with fail
    with_reducible refine (check_large rest _ h1).mono ?_
    rintro e w1 ⟨rfl, rfl⟩
    go_wp2
    go_ret2
    rw [HE.out]
    exact ⟨rfl, Below.refl _ _⟩
  · have h1' : rest.size ≤ 200 := by omega
    by_cases h2 : 200 < n
    · have HE : Hid (Ph.getP (phs h n) (lst rest) = (2, [])) := by unfold Hid Ph.getP; rw [if_neg (by omega), if_pos (by omega)]
      have h2' : (200 : Int) < (n : Int) := by omega
      clear hl hp
      go_enter Try.func8, Try.ntmps8
      go_wp2_with fail
      with_reducible refine (check_ok rest _ h1').mono ?_
      rintro e w1 ⟨rfl, rfl⟩
      go_wp2
      go_ret2
      rw [HE.out]
      exact ⟨rfl, Below.refl _ _⟩
    · have hdl : decide ((200 : Int) < (n : Int)) = false := decide_eq_false (by omega)
      obtain ⟨J, hJ⟩ : ∃ J, J = Ph.gj [[]] [] (phs h n) := ⟨_, rfl⟩
      have hjoin := join_any (c := c) w hr (by omega)
      rw [← hJ] at hjoin
      have HG : Hid (Ph.getP (phs h n) (lst rest) = if J.1 = 0 then (if 200 < (J.2 ++ lst rest).length then (2, []) else (0, J.2 ++ lst rest)) else (J.1, [])) := by
        unfold Hid Ph.getP
        rw [if_neg (by omega), if_neg (by omega), ← hJ]
      have HZ : Hid (J.2.length ≤ 200) := by unfold Hid; rw [hJ]; exact Ph.gj_len _ _ _ (by simp)
      clear hl hp hJ
      obtain ⟨j, u⟩ := J
      by_cases h0 : j = 0
      · subst h0
        have hu : u.length ≤ 200 := HZ.out
        obtain ⟨us, hus⟩ : ∃ us, us = mkS u := ⟨_, rfl⟩
        have hzu : us.size ≤ 200 := by rw [hus, mk_size]; exact hu
        have hbig : ¬ 9223372036854775807 < us.size + rest.size := by omega
        have hzl : (us ++ rest).size = (u ++ lst rest).length := by rw [size_app, hus, mk_size, List.length_append, lst_len]
        have HS : Hid (us ++ rest = mkS (u ++ lst rest)) := by unfold Hid; rw [hus, mk_app, mk_lst]
        have hjoin' := hjoin
        dsimp only at hjoin'
        rw [← hus] at hjoin'
        clear hjoin hus HZ
        by_cases hfit : (u ++ lst rest).length ≤ 200
        · have HE : Hid (Ph.getP (phs h n) (lst rest) = (0, u ++ lst rest)) := by
            unfold Hid
            rw [HG.out]
            dsimp only
            rw [if_pos rfl, if_neg (by omega)]
          have hz : (us ++ rest).size ≤ 200 := by omega
          clear HG hzl hfit
          go_enter Try.func8, Try.ntmps8
          go_wp2_with fail
          with_reducible refine (check_ok rest _ h1').mono ?_
          rintro e w1 ⟨rfl, rfl⟩
          go_wp2_with fail
          with_reducible refine hjoin'.mono ?_
          rintro e w2 ⟨rfl, hb⟩
          have HB := hid hb
          clear hb hjoin'
          go_wp2_with fail
          with_reducible refine (check_ok (us ++ rest) _ hz).mono ?_
          rintro e w3 ⟨rfl, rfl⟩
          go_wp2
          go_ret2
          rw [HE.out]
          exact ⟨by rw [HS.out]; rfl, HB.out⟩
        · have HE : Hid (Ph.getP (phs h n) (lst rest) = (2, [])) := by
            unfold Hid
            rw [HG.out]
            dsimp only
            rw [if_pos rfl, if_pos (by omega)]
          have hz : 200 < (us ++ rest).size := by omega
          clear HG hzl hfit
          go_enter Try.func8, Try.ntmps8
          go_wp2_with fail
          with_reducible refine (check_ok rest _ h1').mono ?_
          rintro e w1 ⟨rfl, rfl⟩
          go_wp2_with fail
          with_reducible refine hjoin'.mono ?_
          rintro e w2 ⟨rfl, hb⟩
          have HB := hid hb
          clear hb hjoin'
          go_wp2_with fail
          with_reducible refine (check_large (us ++ rest) _ hz).mono ?_
          rintro e w3 ⟨rfl, rfl⟩
          go_wp2
          go_ret2
          rw [HE.out]
          exact ⟨rfl, HB.out⟩
      · have HE : Hid (Ph.getP (phs h n) (lst rest) = (j, [])) := by
          unfold Hid
          rw [HG.out]
          dsimp only
          rw [if_neg h0]
        have hj : ((j : Int) != 0) = true := by simp; omega
        dsimp only at hjoin
        clear HG HZ h0
        go_enter Try.func8, Try.ntmps8
        go_wp2_with fail
        with_reducible refine (check_ok rest _ h1').mono ?_
        rintro e w1 ⟨rfl, rfl⟩
        go_wp2_with fail
        with_reducible refine hjoin.mono ?_
        rintro e w2 ⟨rfl, hb⟩
        have HB := hid hb
        clear hb hjoin
        go_wp2
        go_ret2
        rw [HE.out]
        exact ⟨rfl, HB.out⟩
end Go.Proofs.Ytpifmahnlapdbaa
