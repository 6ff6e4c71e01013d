
/-
quilltop.TopPowers: whatever word and number: it answers true.
-/
import Derived.Test.YtapjodbaaejldaaPowMath
import Derived.Test.YtapjodbaaejldaaTopWorks
import Derived.Test.YtapjodbaaejldaaTopCut
import Derived.Test.YtapjodbaaejldaaKeep
import Derived.Laws.Concat
import Derived.Deep.RegionHeld3
namespace Go.Proofs.Ytapjodbaaejldaa
open Go.RowKit

theorem repL1 (x : UInt8) : ∀ n, Lib.repeatL [x] n = List.replicate n x
  | 0 => rfl
  | n + 1 => by
    show [x] ++ Lib.repeatL [x] n = _
    rw [repL1 x n, List.replicate_succ]; rfl
/-- One byte, so often. -/
theorem srep1 (u : ByteArray) (i k : Nat) (hi : i < u.size) (hk : k ≤ 200) (W : World) : Calls Try.prog 43 #[.string (u.extract i (i + 1)), .int .i64 (k : Int)] W fun e w' => e = .returned (.string (mkS (List.replicate k (byt u i)))) ∧ Below W.heap.size W w' := by
  have hz : (u.extract i (i + 1)).size = 1 := by rw [size_ext]; omega
  have := Try.strings_Repeat (u.extract i (i + 1)) k W (by omega) (by rw [hz]; omega)
  have e : (u.extract i (i + 1)).data.toList = [byt u i] := by
    show lst (u.extract i (i + 1)) = _
    rw [lst_mid, show i + 1 - i = 1 by omega, List.drop_eq_getElem_cons (by rw [lst_len]; exact hi)]
    show [(lst u)[i]'_] = [byt u i]
    rw [← lst_get, List.getD_eq_getElem?_getD, List.getElem?_eq_getElem (by rw [lst_len]; exact hi), Option.getD_some]
  rw [e, repL1] at this
  exact this
/-- Word.Root, lyndon.Least, Split, and the transforms: what is wanted of them here. -/
theorem Least_pow (w : ByteArray) (W : World) (hw : w.size ≤ 200) :
    Calls Try.prog 45 #[.string w] W fun e w' => ∃ (L : ByteArray) (i : Nat), e = .returned (.tuple #[.string L, .int .i64 (i : Int), .int .i64 0]) ∧ L.size = w.size ∧ (∀ n g, FactG L n g → (n : Int) = rootN w ∧ ∀ j, j < n → g j = g 0) ∧ Below W.heap.size W w' := by
  by_cases h0 : 0 < w.size
  · refine (Least_ok w W hw h0).mono ?_
    rintro e w' ⟨⟨i, rfl, hi, hl⟩, hd⟩
    refine ⟨_, i, rfl, turnS_size (by omega), fun n g hf => ?_, hd.below _⟩
    obtain ⟨h1, h2⟩ := pow_fact h0 hi hl hf
    refine ⟨?_, h2⟩
    unfold rootN
    rw [if_neg (by omega), h1]
  · refine (Least_empty w W (by omega)).mono ?_
    rintro e w' ⟨rfl, hd⟩
    refine ⟨_, 0, rfl, by rw [show w.size = 0 by omega]; rfl, fun n g hf => ?_, hd.below _⟩
    have hn : n = 0 := by
      have := Lm.Fact.unique hf Lm.fact_nil
      have := congrArg List.length this
      rw [List.length_map, rowL_len] at this
      exact this
    subst hn
    unfold rootN
    rw [if_pos (by omega)]
    exact ⟨rfl, fun j hj => absurd hj (Nat.not_lt_zero _)⟩
theorem put_pow {w t u : ByteArray} {a b k : Nat} (hk : (k : Int) = rootN w) (h : Tm.IsPut (lst w) (lst t) a) (g : Tm.IsPut (lst (rootS w)) (lst u) b) : t.size = w.size ∧ t.size = u.size * k ∧ ∀ j, j < t.size → (lst t).getD j 0 = (lst u).getD (j / k) 0 := by
  unfold rootN at hk
  unfold rootS at g
  by_cases h0 : w.size = 0
  · rw [if_pos h0] at g
    have e1 := h.len
    have e2 := g.len
    rw [lst_len, lst_len] at e1 e2
    have e3 : u.size = 0 := e2
    exact ⟨e1, by rw [e1, h0, e3, Nat.zero_mul], fun j hj => by omega⟩
  · rw [if_neg h0] at g hk
    obtain rfl : k = w.size / rootLen w := by omega
    exact put_root (by omega) h g
theorem rootN_nat (w : ByteArray) (hw : w.size ≤ 200) : ∃ k : Nat, (k : Int) = rootN w ∧ k ≤ 200 := by
  unfold rootN
  by_cases h0 : w.size = 0
  · rw [if_pos h0]; exact ⟨0, rfl, by omega⟩
  · rw [if_neg h0]; exact ⟨_, rfl, Nat.le_trans (Nat.div_le_self _ _) hw⟩
set_option maxHeartbeats 4000000 in
set_option maxRecDepth 100000 in
theorem topPowers_walk (s0 : ByteArray) (n0 : Int) (_ : s0.size ≤ maxLen) (_ : (Lit.int .i64 n0).wf = true) (w : World) :
    Calls Try.prog 10 #[.string s0, .int .i64 n0] w fun e w' => e = .returned (.bool true) ∧ Below w.heap.size w w' := by
  have hw5 : ∀ W : World, Calls Try.prog 31 #[.int .i64 n0, .int .i64 5] W fun e w' => e = .returned (.int .i64 ((n0 % ((5 : Nat) : Int)).toNat : Nat)) ∧ W = w' := fun W => within_any n0 5 W (by decide) (by decide)
  obtain ⟨r, hr⟩ : ∃ r, r = (n0 % ((5 : Nat) : Int)).toNat := ⟨_, rfl⟩
  rw [← hr] at hw5
  have hr5 : r < 5 := by have := Int.emod_lt_of_pos n0 (show (0 : Int) < ((5 : Nat) : Int) by decide); omega
  have HW5 := hid hw5
  have HCU : Hid (∀ W : World, Calls Try.prog 42 #[.string s0, .int .i64 40] W fun e w' => e = .returned (.string (s0.extract 0 (min s0.size 40))) ∧ W = w') := fun W => topCut_any s0 40 W (by decide)
  obtain ⟨n, hn⟩ : ∃ n, n = 1 + r := ⟨_, rfl⟩
  have en : (1 : Int) + (r : Int) = (n : Int) := by omega
  have hn6 : n < 6 := by omega
  clear hr hw5 hn hr5
  go_enter Try.func10, Try.ntmps10
  go_wp2_with fail
  with_reducible refine (HCU.out _).mono ?_
  rintro e w1 ⟨rfl, rfl⟩
  obtain ⟨s, hs⟩ : ∃ s, s = s0.extract 0 (min s0.size 40) := ⟨_, rfl⟩
  rw [← hs]
  clear HCU
  have hsz : s.size ≤ 40 := by rw [hs, size_ext]; omega
  clear hs
  go_wp2_with fail
  with_reducible refine (HW5.out _).mono ?_
  rintro e w1 ⟨rfl, rfl⟩
  clear HW5
  have hsn : s.size * n ≤ 200 := Nat.le_trans (Nat.mul_le_mul hsz (show n ≤ 5 by omega)) (by omega)
  go_wp2_with fail
  with_reducible refine (Try.strings_Repeat s n _ (by omega) (by omega)).mono ?_
  rintro e w2 ⟨rfl, hb⟩
  obtain ⟨x, hx⟩ : ∃ x, x = (⟨(Lib.repeatL s.data.toList n).toArray⟩ : ByteArray) := ⟨_, rfl⟩
  rw [← hx]
  have hxz : x.size ≤ 200 := by
    rw [hx, show (⟨(Lib.repeatL s.data.toList n).toArray⟩ : ByteArray) = mkS (Lib.repeatL (lst s) n) from rfl, mk_size, Lib.repeatL_length, lst_len, Nat.mul_comm]
    exact hsn
  have HB := hid hb
  clear hx hb hsn
  go_wp2_with fail
  with_reducible refine (Root_any x _ hxz).mono ?_
  rintro e w3 ⟨rfl, hb⟩
  have HB := hid (bl_then HB.out hb)
  clear hb
  obtain ⟨k, hk, hk200⟩ := rootN_nat x hxz
  rw [← hk]
  have HK := hid hk
  clear hk
  obtain ⟨y, hy⟩ : ∃ y, y = rootS x := ⟨_, rfl⟩
  rw [← hy]
  have hyz : y.size ≤ 200 := by
    rw [hy]
    unfold rootS
    split
    · exact Nat.zero_le _
    · rw [size_ext]; omega
  have HY := hid hy
  clear hy
  go_wp2_with fail
  with_reducible refine (Least_pow x _ hxz).mono ?_
  rintro e w4 ⟨L, i, rfl, hLz, hL, hb⟩
  have HB := hid (bl_then HB.out hb)
  have HL := hid hL
  have hL200 : L.size ≤ 200 := by omega
  clear hb hL hLz
  go_wp2_with fail
  with_reducible refine (Split_row L _ hL200).mono ?_
  rintro e w5 ⟨A, c, m, g, rfl, hmc, hmL, hrow, hf, hb⟩
  obtain ⟨hm, hg⟩ := HL.out m g hf
  obtain rfl : m = k := by have := HK.out; omega
  have HB := hid (bl_then HB.out hb)
  have HROW := hid hrow
  have HG := hid hg
  clear hb hrow hf hm hg HL hmL
  go_wp2_with fail
  with_reducible refine (Put_ok x _ hxz).mono ?_
  rintro e w6 ⟨t, a, rfl, hp, hb⟩
  have HB := hid (bl_then HB.out hb)
  have HROW := hid (HROW.out.keep hb)
  have HP := hid hp
  clear hb hp
  go_wp2_with fail
  with_reducible refine (Put_ok y _ hyz).mono ?_
  rintro e w7 ⟨u, b, rfl, hp, hb⟩
  have HB := hid (bl_then HB.out hb)
  have HROW := hid (HROW.out.keep hb)
  rw [HY.out] at hp
  obtain ⟨htz, htu, ht⟩ := put_pow HK.out HP.out hp
  have huz : u.size ≤ 200 := by have := hp.len; rw [lst_len, lst_len, ← HY.out] at this; omega
  have HTU := hid htu
  have HT := hid ht
  have ht200 : t.size ≤ 200 := by omega
  clear hb hp htu ht htz HP HY HK
  go_wp2_with fail
  with_reducible refine (works_ok _).mono ?_
  rintro e w8 ⟨rfl, hb⟩
  have HB := hid (bl_then HB.out hb)
  have HROW := hid (HROW.out.keep hb)
  clear hb
  have hz : Hid (∀ j, j < 5 → (w8.alloc (.cells #[.int .i64 0, .int .i64 0, .int .i64 0, .int .i64 0, .int .i64 0] 23)).cell? ⟨w8.heap.size, j, none⟩ = some (.int .i64 0)) := zeros_new w8 23 5
  go_wp2_with fail
  with_reducible refine (topGood_ok w8.heap.size 5 5 _ (by decide) hz.out).mono ?_
  rintro e w9 ⟨rfl, rfl⟩
  have hb2 := bl_new w8 (.cells #[.int .i64 0, .int .i64 0, .int .i64 0, .int .i64 0, .int .i64 0] 23)
  have HB := hid (bl_then HB.out hb2)
  have HROW := hid (HROW.out.keep hb2)
  clear hz hb2
  generalize (w8.alloc (.cells #[.int .i64 0, .int .i64 0, .int .i64 0, .int .i64 0, .int .i64 0] 23)) = w9 at *
  go_wp2
  go_loopw [80] (fun x wr => ∃ j : Nat, j ≤ m ∧ x = .int .i64 (j : Int) ∧ Hid (SRow wr A m g) ∧ Hid (Below w.heap.size w wr)) (fun x _ => m - (intOf x).toNat)
  case atStart => exact ⟨0, by omega, rfl, HROW, HB⟩
  case round =>
    clear HROW HB
    obtain ⟨j, hj, rfl, HROW, HB⟩ := hrel
    by_cases hjm : j < m
    · obtain ⟨bl, o, rfl, hlt, cj⟩ := HROW.out j hjm
      obtain ⟨bl', o', hbo, _, c0⟩ := HROW.out 0 (by omega)
      obtain ⟨rfl, rfl⟩ : bl = bl' ∧ o = o' := by injection hbo with hbo; injection hbo with h1 h2; exact ⟨h1, h2⟩
      rw [HG.out j hjm] at cj
      rw [Nat.add_zero] at c0
      obtain ⟨q, hq⟩ : ∃ q, q = g 0 := ⟨_, rfl⟩
      rw [← hq] at cj c0
      have hjI : (j : Int) < (m : Int) := by omega
      have h0I : (0 : Int) < (m : Int) := by omega
      have hqq : (q.toList == q.toList) = true := by simp
      clear hbo hq
      go_wp2
      go_quiet (fail)
      go_wp2
      go_roundw
      case measure => simp [intOf]; omega
      case rel => exact ⟨j + 1, by omega, by go_num, hid (HROW.out.keep (bl_drewN (Below.refl _ _) _)), hid (bl_drewN HB.out _)⟩
    · have hjI : ¬ (j : Int) < (m : Int) := by omega
      obtain rfl : j = m := by omega
      clear HROW
      obtain ⟨w10, hw10⟩ : ∃ w10, w10 = wr := ⟨_, rfl⟩
      rw [← hw10] at HB
      have HW := hid hw10
      clear hw10
      go_wp2
      go_loopw [21, 94] (fun al x W => ∃ i : Nat, i ≤ u.size ∧ x = .int .i64 (i : Int) ∧ al = .string (t.extract 0 (i * j)) ∧ Hid (Below w.heap.size w W)) (fun _ x _ => u.size - (intOf x).toNat)
      case atStart => exact ⟨0, by omega, rfl, by rw [Nat.zero_mul]; exact congrArg Value.string (lst_inj_ (by rw [lst_mid]; rfl)), hid (by rw [← HW.out]; exact HB.out)⟩
      case round =>
        clear HB HW
        obtain ⟨i, hi, rfl, rfl, HB⟩ := hrel
        by_cases hiu : i < u.size
        · obtain ⟨i1, hi1⟩ : ∃ i1, i1 = i + 1 := ⟨_, rfl⟩
          have e1 : (i : Int) + 1 = (i1 : Int) := by omega
          have hwi : IntKind.i64.wrap (i1 : Int) = (i1 : Int) := IntWalk.i64_in _ (by omega)
          have b0 : (0 : Int) ≤ (i : Int) := by omega
          have b1 : (i : Int) ≤ (i1 : Int) := by omega
          have b2 : (i1 : Int) ≤ (u.size : Int) := by omega
          have biu : (i : Int) < (u.size : Int) := by omega
          have HSR : Hid (∀ W : World, Calls Try.prog 43 #[.string (u.extract i i1), .int .i64 (j : Int)] W fun e w' => e = .returned (.string (mkS (List.replicate j (byt u i)))) ∧ Below W.heap.size W w') := fun W => by
            rw [hi1]; exact srep1 u i j hiu hk200 W
          have hst := pow_step HT.out HTU.out hiu
          rw [← hi1] at hst
          have hz1 : (t.extract 0 (i * j)).size ≤ 200 := by rw [size_ext]; omega
          have hz2 : (mkS (List.replicate j (byt u i))).size ≤ 200 := by rw [mk_size, List.length_replicate]; omega
          obtain ⟨T1, hT1⟩ : ∃ T1, T1 = t.extract 0 (i * j) := ⟨_, rfl⟩
          obtain ⟨R1, hR1⟩ : ∃ R1, R1 = mkS (List.replicate j (byt u i)) := ⟨_, rfl⟩
          obtain ⟨T2, hT2⟩ : ∃ T2, T2 = t.extract 0 (i1 * j) := ⟨_, rfl⟩
          rw [← hT1] at hst hz1 ⊢
          rw [← hR1] at hst hz2 HSR
          rw [← hT2] at hst
          have hadd := fun W : World => run_string_add_sum (P := Try.prog) W T1 R1 (by omega)
          rw [hst] at hadd
          have HT2 := hid hT2
          have HI1 := hid hi1
          clear hst hT1 hR1 hT2 hi1 hz1 hz2
          go_wp2_with fail
          with_reducible refine (HSR.out _).mono ?_
          rintro e w11 ⟨rfl, hb⟩
          have HB := hid (bl_then HB.out hb)
          clear hb HSR
          go_wp2
          go_roundw
          case measure => have := HI1.out; simp [intOf]; omega
          case rel => exact ⟨i1, by omega, by trivial, by rw [HT2.out], HB⟩
        · have biu : ¬ (i : Int) < (u.size : Int) := by omega
          obtain rfl : i = u.size := by omega
          have hfin : t.extract 0 (u.size * j) = t := by rw [← HTU.out, whole_ext]
          rw [hfin]
          have htt : (t.toList == t.toList) = true := by simp
          clear hfin
          go_wp2
          go_ret
          exact ⟨rfl, HB.out⟩
end Go.Proofs.Ytapjodbaaejldaa
