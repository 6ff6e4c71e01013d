
/-
The contracts of package diff: cost, replacements, Cost, Make.
-/
import Derived.Test.YtejcijlmpiiffaaMkMath
import Derived.Test.YtejcijlmpiiffaaSamePub
import Derived.Test.YtejcijlmpiiffaaEvRow
import Derived.Test.YtejcijlmpiiffaaEdAp
import Derived.Deep.RegionHeld3
namespace Go.Proofs.Ytejcijlmpiiffaa
open Go.RowKit

theorem cost_ok (s t : ByteArray) (k d : Nat) (w : World) (hd : d + 2 * k = s.size + t.size) (hks : k ≤ s.size) (hs : s.size ≤ 200) (ht : t.size ≤ 200) :
    Calls Try.prog 25 #[.string s, .string t, .int .i64 (k : Int)] w fun e w' => e = .returned (.int .i64 (d : Int)) ∧ w = w' := by
  have e1 : IntKind.i64.wrap ((s.size : Int) - (k : Int)) = (s.size : Int) - (k : Int) := IntWalk.i64_in _ (by omega)
  have e2 : IntKind.i64.wrap ((s.size : Int) - (k : Int) + (t.size : Int)) = (s.size : Int) - (k : Int) + (t.size : Int) := IntWalk.i64_in _ (by omega)
  have e3 : IntKind.i64.wrap ((s.size : Int) - (k : Int) + (t.size : Int) - (k : Int)) = (d : Int) := by
    rw [show (s.size : Int) - (k : Int) + (t.size : Int) - (k : Int) = (d : Int) by omega]
    exact IntWalk.i64_in _ (by omega)
  go_enter Try.func25, Try.ntmps25
  go_wp2
  go_ret
  exact ⟨by first | rfl | rw [e3], rfl⟩
set_option maxHeartbeats 2000000 in
theorem repl_ok (s t : ByteArray) (L M : List Nat) (v u : Value) (base : Nat) (w : World) (hs : s.size ≤ 200) (ht : t.size ≤ 200) (hL : Sa.Lcs (lst s) (lst t) L M) (hd : Df.df (lst s) (lst t) ≤ 20)
    (hv : OwnI w base v (ofN L)) (hu : OwnI w base u (ofN M)) (ha : Apt v u) (hb : base ≤ w.heap.size) :
    Calls Try.prog 26 #[.string s, .string t, v, u] w fun e w' => ∃ (l : List Es.Ev) (vv : Value), e = .returned vv ∧ OwnE w' base vv l ∧ (∃ G q, Es.Scr (lst s) l G q ∧ Es.dst G q = lst t ∧ Df.tot l = (Df.df (lst s) (lst t) : Int)) ∧ Below base w w' := by
  have hml : M.length = L.length := by rw [hL.len, hL.same]
  have hl200 : L.length ≤ 200 := by
    have := Sa.lc_left (lst s) (lst t)
    rw [← hL.len, lst_len] at this
    omega
  have hl1 : (ofN L).length < 1000000 := by rw [ofN_len]; omega
  have hl2 : (ofN M).length < 1000000 := by rw [ofN_len]; omega
  have HL := hid hL
  have HD := hid hd
  have HV := hid hv
  have HU := hid hu
  have HA := hid ha
  have HML := hid hml
  have HL200 := hid hl200
  clear hL hd hv hu ha hml hl200
  go_enter Try.func26, Try.ntmps26
  go_wp2_with (at_builtin; with_reducible refine app_intT rfl _ _ rfl rfl HV.out _ rfl rfl hb hl1 ?_)
  intro v' w3 hown3 hb3 hg3 hv3
  rw [← ofN_snoc] at hown3
  have HV3 := hid hown3
  have HU3 := hid (HU.out.apt hg3 HA.out)
  have HA3 := hid (HA.out.next HU.out.blk hv3).turn
  have HB3 := hid hb3
  have hsz3 : base ≤ w3.heap.size := Nat.le_trans hb hb3.size
  clear hown3 hb3 hg3 hv3 HV HU HA hl1
  go_wp2_with (at_builtin; with_reducible refine app_intT rfl _ _ rfl rfl HU3.out _ rfl rfl hsz3 hl2 ?_)
  intro u' w4 hown4 hb4 hg4 hv4
  rw [← ofN_snoc] at hown4
  have HV4 := hid (HV3.out.apt hg4 HA3.out)
  have HB4 := hid (HB3.out.trans hb4)
  have hsz4 : base ≤ w4.heap.size := Nat.le_trans hsz3 hb4.size
  obtain ⟨A, c, hA, hr1⟩ := HV4.out.irow
  obtain ⟨B, d, hB, hr2⟩ := (show OwnI w4 base u' _ from hown4).irow
  rw [ofN_len, List.length_append, List.length_singleton] at hA hr1 hB hr2
  rw [HML.out] at hB hr2
  subst hA hB
  obtain ⟨m, hm⟩ : ∃ m, m = L.length + 1 := ⟨_, rfl⟩
  rw [← hm] at hr1 hr2 ⊢
  have HR1 : Hid (IRow w4 A m (fun k => (Df.nx L (lst s).length k : Nat))) := hr1.congr fun k _ => by rw [ofN_get]; unfold Df.nx; rw [lst_len]
  have HR2 : Hid (IRow w4 B m (fun k => (Df.nx M (lst t).length k : Nat))) := hr2.congr fun k _ => by rw [ofN_get]; unfold Df.nx; rw [lst_len]
  have HM := hid hm
  clear hown4 hb4 hg4 hv4 HV3 HU3 HA3 HB3 HV4 hr1 hr2 hm hsz3 hl2
  go_wp2
  go_loopw [9, 10, 11, 26] (fun v x y z wr => ∃ (k i j : Nat) (l : List Es.Ev) (vv : Value), vv = v ∧ k ≤ m ∧ z = .int .i64 (k : Int) ∧ x = .int .i64 (i : Int) ∧ y = .int .i64 (j : Int) ∧ i ≤ 201 ∧ j ≤ 201 ∧ Hid (Df.Rl (lst s) (lst t) L M l i j k) ∧ Hid (OwnE wr w4.heap.size vv l) ∧ Hid (Below w4.heap.size w4 wr)) (fun _ _ _ z _ => m - (intOf z).toNat)
  case atStart => exact ⟨0, 0, 0, [], _, rfl, by omega, rfl, rfl, rfl, by omega, by omega, Df.Rl.start _ _ _ _, OwnE.zero _ _, Below.refl _ _⟩
  case round =>
    obtain ⟨k, i, j, l, vv, rfl, hk, rfl, rfl, rfl, hi, hj, HR, HV, HB⟩ := hrel
    have hle1 : w4.heap.size ≤ wr.heap.size := HB.out.size
    by_cases hkn : k < m
    · have hkn' : (k : Int) < (m : Int) := by omega
      have hk2 : k ≤ L.length := by have := HM.out; omega
      have hk200 : k ≤ 200 := Nat.le_trans hk2 HL200.out
      obtain ⟨p, hp⟩ : ∃ p, p = Df.nx L (lst s).length k := ⟨_, rfl⟩
      obtain ⟨q, hq⟩ : ∃ q, q = Df.nx M (lst t).length k := ⟨_, rfl⟩
      obtain ⟨b1, o1, rfl, hb1, c1⟩ := HR1.out k hkn
      obtain ⟨b2, o2, rfl, hb2, c2⟩ := HR2.out k hkn
      simp only [← hp] at c1
      simp only [← hq] at c2
      have KC : ∀ W, Below w4.heap.size w4 W → W.cell? ⟨b1, o1 + k, none⟩ = some (.int .i64 (p : Int)) ∧ W.cell? ⟨b2, o2 + k, none⟩ = some (.int .i64 (q : Int)) := fun W hW =>
        ⟨(hW.cell (p := ⟨b1, o1 + k, none⟩) hb1).trans c1, (hW.cell (p := ⟨b2, o2 + k, none⟩) hb2).trans c2⟩
      have HKC := hid KC
      clear c1 c2
      obtain ⟨c1, c2⟩ := KC wr HB.out
      obtain ⟨hm1, hip, hjq⟩ := HR.out.1 hk2
      obtain ⟨hps, hqt⟩ := Df.nx_le HL.out hk2
      rw [← hp] at hip hps
      rw [← hq] at hjq hqt
      rw [lst_len] at hps hqt
      have hln : l.length < 1000000 := by have := HR.out.2.2; omega
      have HN := hid (fun l' h => HR.out.next (l' := l') HL.out (by rw [lst_len]; exact hs) (by rw [lst_len]; exact ht) hk2 h)
      rw [← hp, ← hq] at HN
      clear hm1 HR hp hq hb1 hb2 KC HR1 HR2
      have hj0 : (0 : Int) ≤ (j : Int) := by omega
      have hjq' : (j : Int) ≤ (q : Int) := by omega
      have hqt' : (q : Int) ≤ (t.size : Int) := by omega
      have hw : IntKind.i64.wrap ((p : Int) - (i : Int)) = (p : Int) - (i : Int) := IntWalk.i64_in _ (by omega)
      obtain ⟨y, hy⟩ : ∃ y, y = t.extract j q := ⟨_, rfl⟩
      have hyz : y.size = q - j := by rw [hy, size_ext]; omega
      have HY : Hid (mkS (((lst t).drop j).take (q - j)) = y) := by
        show _ = _
        rw [hy, ← lst_mid, mk_lst]
      have HA : Hid (∀ o, Below w4.heap.size w4 (wr.alloc o).drew) := fun o => bl_drewN (HB.out.alloc hle1 o) 1
      have HX := hid (EvBlk.new wr ⟨(i : Int), (p : Int) - (i : Int), y⟩ _ rfl)
      have HB5 : Hid (Below w4.heap.size w4 (wr.alloc (.cells #[.int .i64 (i : Int), .int .i64 ((p : Int) - (i : Int)), .string y] 33)).drew) := HA.out _
      have HV5 : Hid (OwnE (wr.alloc (.cells #[.int .i64 (i : Int), .int .i64 ((p : Int) - (i : Int)), .string y] 33)).drew w4.heap.size vv l) := HV.out.alloc _
      have HX5 : Hid (EvBlk (wr.alloc (.cells #[.int .i64 (i : Int), .int .i64 ((p : Int) - (i : Int)), .string y] 33)).drew wr.heap.size ⟨(i : Int), (p : Int) - (i : Int), y⟩) := HX.out
      go_wp2
      go_region_held3 (fun W => W.cell? ⟨b1, o1 + k, none⟩ = some (.int .i64 (p : Int)) ∧ W.cell? ⟨b2, o2 + k, none⟩ = some (.int .i64 (q : Int))) (first | exact ⟨c1, c2⟩ | exact HKC.out _ (HA.out _) | (trace_state; fail)) (first | fail)
      rename_i hHeld
      rw [← hy]
      clear hHeld hy
      generalize (wr.alloc (.cells #[.int .i64 (i : Int), .int .i64 ((p : Int) - (i : Int)), .string y] 33)).drew = w5 at *
      obtain ⟨d0, d1, d2⟩ := HX5.out.cells
      obtain ⟨c1, c2⟩ := HKC.out _ HB5.out
      try simp only at d0 d1 d2
      clear HV HB HX HA hj0 hjq' hqt'
      have HAP : Hid (i < p ∨ j < q → Df.Rl (lst s) (lst t) L M (l ++ [⟨(i : Int), (p : Int) - (i : Int), y⟩]) (p + 1) (q + 1) (k + 1)) := fun h => HN.out _ (by rw [if_pos h, HY.out, show ((p - i : Nat) : Int) = (p : Int) - (i : Int) by omega])
      by_cases h1 : i < p
      · have h1' : decide (i < p) = true := decide_eq_true h1
        have HR9 := hid (HAP.out (.inl h1))
        clear HAP HN HY
        go_wp2_with (at_builtin; with_reducible refine app_ev (x := ⟨(i : Int), (p : Int) - (i : Int), y⟩) rfl _ _ rfl rfl HV5.out w5.heap.size rfl rfl HB5.out.size l.length rfl hln ?_)
        intro g' cap w7 hown hgr
        have HV7 := hid hown
        have HB7 : Hid (Below w4.heap.size w4 w7) := hid (HB5.out.grown hgr HB5.out.size fun k hk => (HV5.out.lt_ k hk).1)
        clear hown hgr c1 c2 d0 d1 d2 HX5 HV5 HB5
        obtain ⟨c1, c2⟩ := HKC.out _ HB7.out
        go_wp2
        go_quiet (fail)
        go_wp2
        go_roundw
        case rel => exact ⟨k + 1, p + 1, q + 1, l ++ [(⟨(i : Int), (p : Int) - (i : Int), y⟩ : Es.Ev)], _, rfl, by omega, by go_num, by go_num, by go_num, by omega, by omega, HR9, hid HV7.out, bl_drewN HB7.out _⟩
        case measure => simp [intOf]; omega
      · have h1' : decide (i < p) = false := decide_eq_false h1
        by_cases h2 : j < q
        · have h2' : y.toList.isEmpty = false := some_bytes (by omega)
          have HR9 := hid (HAP.out (.inr h2))
          clear HAP HN HY
          go_wp2_with (at_builtin; with_reducible refine app_ev (x := ⟨(i : Int), (p : Int) - (i : Int), y⟩) rfl _ _ rfl rfl HV5.out w5.heap.size rfl rfl HB5.out.size l.length rfl hln ?_)
          intro g' cap w7 hown hgr
          have HV7 := hid hown
          have HB7 : Hid (Below w4.heap.size w4 w7) := hid (HB5.out.grown hgr HB5.out.size fun k hk => (HV5.out.lt_ k hk).1)
          clear hown hgr c1 c2 d0 d1 d2 HX5 HV5 HB5
          obtain ⟨c1, c2⟩ := HKC.out _ HB7.out
          go_wp2
          go_quiet (fail)
          go_wp2
          go_roundw
          case rel => exact ⟨k + 1, p + 1, q + 1, l ++ [(⟨(i : Int), (p : Int) - (i : Int), y⟩ : Es.Ev)], _, rfl, by omega, by go_num, by go_num, by go_num, by omega, by omega, HR9, hid HV7.out, bl_drewN HB7.out _⟩
          case measure => simp [intOf]; omega
        · have h2' : y.toList.isEmpty = true := no_bytes (by omega)
          have HR9 := hid (HN.out l (by rw [if_neg (by omega)]))
          clear HAP HN HY
          go_wp2
          go_quiet (fail)
          go_wp2
          go_roundw
          case rel => exact ⟨k + 1, p + 1, q + 1, l, _, rfl, by omega, by go_num, by go_num, by go_num, by omega, by omega, HR9, hid HV5.out, bl_drewN HB5.out _⟩
          case measure => simp [intOf]; omega
    · obtain rfl : k = m := by omega
      have HE := hid (HR.out.done HL.out (by rw [lst_len]; exact hs) (by rw [lst_len]; exact ht) HM.out HD.out)
      have hkd : decide ((k : Int) < (k : Int)) = false := decide_eq_false (by omega)
      clear HR HM
      go_wp2
      go_ret
      exact ⟨l, _, rfl, own_low HV.out hsz4, HE.out, HB4.out.trans (HB.out.mono hsz4)⟩
theorem df_size (s t : ByteArray) : Df.df (lst s) (lst t) + 2 * Sa.lc (lst s) (lst t) = s.size + t.size ∧ Sa.lc (lst s) (lst t) ≤ s.size := by
  have h1 := Df.lc_two (lst s) (lst t)
  have h2 := Sa.lc_left (lst s) (lst t)
  unfold Df.df
  rw [lst_len, lst_len] at *
  omega
/-- What Cost answers, and with which error. -/
def fv (s t : ByteArray) : Nat := if s.size ≤ 200 ∧ t.size ≤ 200 then Df.df (lst s) (lst t) else 0
def fe (s t : ByteArray) : Int := if s.size ≤ 200 ∧ t.size ≤ 200 then 0 else 2
theorem fv_ok {a b : ByteArray} (ha : a.size ≤ 200) (hb : b.size ≤ 200) : fv a b = Df.df (lst a) (lst b) := if_pos ⟨ha, hb⟩
theorem fe_ok {a b : ByteArray} (ha : a.size ≤ 200) (hb : b.size ≤ 200) : fe a b = 0 := if_pos ⟨ha, hb⟩
theorem fv_bad {a b : ByteArray} (h : ¬ (a.size ≤ 200 ∧ b.size ≤ 200)) : fv a b = 0 := if_neg h
theorem fe_bad {a b : ByteArray} (h : ¬ (a.size ≤ 200 ∧ b.size ≤ 200)) : fe a b = 2 := if_neg h
theorem fv_comm (a b : ByteArray) : fv a b = fv b a := by
  unfold fv
  by_cases h : a.size ≤ 200 ∧ b.size ≤ 200
  · rw [if_pos h, if_pos ⟨h.2, h.1⟩, Df.df_comm]
  · rw [if_neg h, if_neg (by omega)]
theorem fe_comm (a b : ByteArray) : fe a b = fe b a := by
  unfold fe
  by_cases h : a.size ≤ 200 ∧ b.size ≤ 200
  · rw [if_pos h, if_pos ⟨h.2, h.1⟩]
  · rw [if_neg h, if_neg (by omega)]
theorem fv_le (a b : ByteArray) : fv a b ≤ 400 := by
  unfold fv
  split
  · have := (df_size a b).1
    omega
  · omega
theorem fv_zero {a b : ByteArray} (ha : a.size ≤ 200) (hb : b.size ≤ 200) : fv a b = 0 ↔ a = b := by
  rw [fv_ok ha hb, Df.df_zero]
  exact ⟨lst_inj_, fun h => by rw [h]⟩
theorem Cost_any (s t : ByteArray) (w : World) :
    Calls Try.prog 9 #[.string s, .string t] w fun e w' => e = .returned (.tuple #[.int .i64 (fv s t : Nat), .int .i64 (fe s t)]) ∧ Below w.heap.size w w' := by
  by_cases h : s.size ≤ 200 ∧ t.size ≤ 200
  · rw [fv_ok h.1 h.2, fe_ok h.1 h.2]
    obtain ⟨hs, ht⟩ := h
    obtain ⟨k, hk⟩ : ∃ k, k = Sa.lc (lst s) (lst t) := ⟨_, rfl⟩
    obtain ⟨d, hd⟩ : ∃ d, d = Df.df (lst s) (lst t) := ⟨_, rfl⟩
    have hdk := df_size s t
    rw [← hk, ← hd] at hdk
    rw [← hd]
    have hL := Long_ok s t w hs ht
    rw [← hk] at hL
    clear hk hd
    go_enter Try.func9, Try.ntmps9
    go_wp2_with fail
    with_reducible refine hL.mono ?_
    rintro e w1 ⟨rfl, hb1⟩
    go_wp2_with fail
    with_reducible refine (cost_ok s t k d _ hdk.1 hdk.2 hs ht).mono ?_
    rintro e w2 ⟨rfl, rfl⟩
    go_wp2
    go_ret2
    exact ⟨rfl, hb1⟩
  · rw [fv_bad h, fe_bad h]
    have hl : 200 < s.size ∨ 200 < t.size := by omega
    go_enter Try.func9, Try.ntmps9
    go_wp2_with fail
    with_reducible refine (Long_large s t _ hl).mono ?_
    rintro e w1 ⟨rfl, rfl⟩
    go_wp2
    go_ret2
    exact ⟨rfl, Below.refl _ _⟩
/-- What Make answers. -/
def MkIs (s t : ByteArray) (L : List Es.Ev) (x : Int) : Prop :=
  (¬ (s.size ≤ 200 ∧ t.size ≤ 200) ∧ L = [] ∧ x = 2) ∨ ((s.size ≤ 200 ∧ t.size ≤ 200) ∧ 20 < Df.df (lst s) (lst t) ∧ L = [] ∧ x = 11) ∨
    ((s.size ≤ 200 ∧ t.size ≤ 200) ∧ Df.df (lst s) (lst t) ≤ 20 ∧ x = 0 ∧ ∃ G q, Es.Scr (lst s) L G q ∧ Es.dst G q = lst t ∧ Df.tot L = (Df.df (lst s) (lst t) : Int))
theorem Make_any (s t : ByteArray) (w : World) :
    Calls Try.prog 8 #[.string s, .string t] w fun e w' => ∃ (A : Option Addr) (c : Nat) (L : List Es.Ev) (x : Int), e = .returned (.tuple #[.slice A L.length c, .int .i64 x]) ∧ L.length ≤ c ∧ MkIs s t L x ∧ EvRow w' A L.length (fun k => L.getD k Es.none_) ∧ Below w.heap.size w w' := by
  by_cases h : s.size ≤ 200 ∧ t.size ≤ 200
  · have hss := h
    obtain ⟨hs, ht⟩ := h
    obtain ⟨d, hd⟩ : ∃ d, d = Df.df (lst s) (lst t) := ⟨_, rfl⟩
    have hdk := df_size s t
    rw [← hd] at hdk
    have HDK := hid hdk
    have HDE := hid hd
    clear hd hdk
    go_enter Try.func8, Try.ntmps8
    go_wp2_with fail
    with_reducible refine (Places_own s t _ hs ht).mono ?_
    rintro e w1 ⟨L, M, v, u, hL, rfl, hv, hu, hb1, ha⟩
    obtain ⟨A, c, hA, hr⟩ := hv.irow
    rw [ofN_len] at hA
    have hk := hL.len
    have HL := hid hL
    have HV := hid hv
    have HU := hid hu
    have HB := hid hb1
    have HA := hid ha
    clear hL hv hu hb1 ha hr
    subst hA
    have hdl : d + 2 * L.length = s.size + t.size ∧ L.length ≤ s.size := by rw [hk]; exact HDK.out
    have hd400 : d ≤ 400 := by omega
    clear hk HDK
    go_wp2_with fail
    with_reducible refine (cost_ok s t L.length d _ hdl.1 hdl.2 hs ht).mono ?_
    rintro e w2 ⟨rfl, rfl⟩
    clear hdl
    by_cases h20 : d ≤ 20
    · have hgt : decide ((20 : Int) < (d : Int)) = false := decide_eq_false (by omega)
      have hd20 : Df.df (lst s) (lst t) ≤ 20 := by rw [← HDE.out]; exact h20
      have HD20 := hid hd20
      clear hd20
      go_wp2_with fail
      with_reducible refine (repl_ok s t L M _ _ w.heap.size _ hs ht HL.out HD20.out HV.out HU.out HA.out HB.out.size).mono ?_
      rintro e w3 ⟨l, vv, rfl, hown, hscr, hb3⟩
      obtain ⟨B, c2, rfl, hc2, hrow⟩ := hown.row
      have HR := hid hrow
      have HB3 := hid (HB.out.trans hb3)
      have HS := hid hscr
      clear hown hb3 hscr hrow
      go_wp2
      go_ret2
      exact ⟨B, c2, l, 0, rfl, hc2, .inr (.inr ⟨hss, HD20.out, rfl, HS.out⟩), HR.out, HB3.out⟩
    · have hgt : decide ((20 : Int) < (d : Int)) = true := decide_eq_true (by omega)
      go_wp2
      go_ret2
      exact ⟨none, 0, [], 11, rfl, Nat.le_refl _, .inr (.inl ⟨hss, by rw [← HDE.out]; omega, rfl, rfl⟩), fun k hk => absurd hk (Nat.not_lt_zero _), HB.out⟩
  · have hl : 200 < s.size ∨ 200 < t.size := by omega
    go_enter Try.func8, Try.ntmps8
    go_wp2_with fail
    with_reducible refine (Places_large s t _ hl).mono ?_
    rintro e w1 ⟨rfl, rfl⟩
    go_wp2
    go_ret2
    exact ⟨none, 0, [], 2, rfl, Nat.le_refl _, .inl ⟨h, rfl, rfl⟩, fun k hk => absurd hk (Nat.not_lt_zero _), Below.refl _ _⟩
end Go.Proofs.Ytejcijlmpiiffaa
