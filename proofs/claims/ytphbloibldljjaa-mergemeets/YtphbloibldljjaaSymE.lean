
/-
The contract of slices.symMergeCmpFunc at []api.Edit, with quillref.BothOf's closure.
-/
import Derived.Test.YtphbloibldljjaaStabE
namespace Go.Proofs.Ytphbloibldljjaa
open Go.RowKit

/-- What a merge of [p, m) and [m, q) leaves. -/
def MrgE (w0 : World) (b o n : Nat) (E : Nat → Es.Ev) (p q : Nat) (R : Nat → Nat → Prop) (g : Nat → Nat) (e : Ending) (w' : World) : Prop :=
  e = .returned (.tuple #[]) ∧ ∃ h, St.PI p q g h ∧ St.Srt R p q h ∧ SE w0 b o n E h w'
set_option maxRecDepth 100000 in
set_option maxHeartbeats 2000000 in
theorem symE_left {E : Nat → Es.Ev} (w0 : World) (b o n c p m q : Nat) (cf : Nat → Nat → Int) (R : Nat → Nat → Prop) (g : Nat → Nat) (w : World) (hC : CmpE E n cf) (O : St.Ord (ltE cf) R) (H : SE w0 b o n E g w)
    (h2 : St.Srt R m q g) (he : St.Erl p m q g) (h12 : m = p + 1) (h3 : m < q) (h4 : q ≤ n) (hn : n ≤ 1000) :
    Calls Try.prog 58 #[.slice (some ⟨b, o, none⟩) n c, .int .i64 (p : Int), .int .i64 (m : Int), .int .i64 (q : Int), .func (.func 31) #[] #[]] w (MrgE w0 b o n E p q R g) := by
  have HH := hid H
  have HC := hid hC
  have H2 := hid h2
  have HE := hid he
  have HM := hid h12
  have e1 : (m : Int) - (p : Int) = 1 := by omega
  have hpm : p < m := by omega
  clear H hC h2 he h12
  go_enter Try.func58, Try.ntmps58
  go_wp2
  go_loopw [10, 11] (fun x y wr => ∃ i j : Nat, x = .int .i64 i ∧ y = .int .i64 j ∧ m ≤ i ∧ i ≤ j ∧ j ≤ q ∧ Hid (∀ z, m ≤ z → z < i → R (g z) (g p)) ∧ Hid (∀ z, j ≤ z → z < q → R (g p) (g z)) ∧ Hid (SE w0 b o n E g wr)) (fun x y _ => (intOf y).toNat - (intOf x).toNat)
  case atStart => exact ⟨m, q, rfl, rfl, by omega, by omega, by omega, hid (fun z z1 z2 => by omega), hid (fun z z1 z2 => by omega), HH⟩
  case round =>
    clear HH
    obtain ⟨i, j, rfl, rfl, hmi, hij, hjq, HL, HR, HS⟩ := hrel
    by_cases hlt : i < j
    · obtain ⟨t, ht⟩ : ∃ t, t = (i + j) / 2 := ⟨_, rfl⟩
      have hlt' : (i : Int) < (j : Int) := by omega
      have et : ((i : Int) + (j : Int)) / 2 = (t : Int) := by omega
      have HT := hid ht
      have htn : t < n := by omega
      have htn' : (t : Int) < (n : Int) := by omega
      have hpn : p < n := by omega
      have hpn' : (p : Int) < (n : Int) := by omega
      obtain ⟨ct, ct1, ct2, fct, fct1, fct2⟩ := HS.out.row _ htn
      obtain ⟨cp, cp1, cp2, fcp, fcp1, fcp2⟩ := HS.out.row _ hpn
      have hlt0 : b < wr.drew.heap.size := HS.out.lt
      have HCC := hid (HC.out wr.drew (g t) (g p) (HS.out.val t htn) (HS.out.val p hpn))
      have hit : i ≤ t := by omega
      have htj : t < j := by omega
      obtain ⟨r, hr⟩ : ∃ r, r = cf (g t) (g p) := ⟨_, rfl⟩
      rw [← hr] at HCC
      have HRR := hid hr
      obtain ⟨X, hX⟩ : ∃ X, X = E (g t) := ⟨_, rfl⟩
      obtain ⟨Y, hY⟩ : ∃ Y, Y = E (g p) := ⟨_, rfl⟩
      rw [← hX] at ct ct1 ct2 HCC
      rw [← hY] at cp cp1 cp2 HCC
      clear hX hY hr ht
      by_cases hneg : r < 0
      · go_wp2
        go_region_held3 (fun W => W.cell? ⟨b, o + t * 3, none⟩ = some (.int .i64 X.a) ∧ W.cell? ⟨b, o + t * 3 + 1, none⟩ = some (.int .i64 X.d) ∧ W.cell? ⟨b, o + t * 3 + 2, none⟩ = some (.string X.s) ∧ W.cell? ⟨b, o + p * 3, none⟩ = some (.int .i64 Y.a) ∧ W.cell? ⟨b, o + p * 3 + 1, none⟩ = some (.int .i64 Y.d) ∧ W.cell? ⟨b, o + p * 3 + 2, none⟩ = some (.string Y.s)) (first | exact ⟨ct, ct1, ct2, cp, cp1, cp2⟩ | assumption) (first | (go_at_call 31; (with_reducible refine HCC.out.mono ?_); rintro e w8 ⟨rfl, hb8⟩; have hS8 := cellsE hb8 hlt0 ct ct1 ct2 cp cp1 cp2; have HS8 := hid ((HS.out.drewN 1).keep hb8); have HB8 := hid hb8; clear hb8))
        go_wp2
        go_roundw
        case measure => simp [intOf]; omega
        case rel =>
          refine ⟨t + 1, j, by go_num, rfl, by omega, by omega, hjq, hid ?_, HR, HS8⟩
          exact St.left_yes O hpm H2.out HE.out (by omega) (by omega) (by have := HRR.out; omega)
      · have hneg' : decide (r < 0) = false := decide_eq_false hneg
        go_wp2
        go_region_held3 (fun W => W.cell? ⟨b, o + t * 3, none⟩ = some (.int .i64 X.a) ∧ W.cell? ⟨b, o + t * 3 + 1, none⟩ = some (.int .i64 X.d) ∧ W.cell? ⟨b, o + t * 3 + 2, none⟩ = some (.string X.s) ∧ W.cell? ⟨b, o + p * 3, none⟩ = some (.int .i64 Y.a) ∧ W.cell? ⟨b, o + p * 3 + 1, none⟩ = some (.int .i64 Y.d) ∧ W.cell? ⟨b, o + p * 3 + 2, none⟩ = some (.string Y.s)) (first | exact ⟨ct, ct1, ct2, cp, cp1, cp2⟩ | assumption) (first | (go_at_call 31; (with_reducible refine HCC.out.mono ?_); rintro e w8 ⟨rfl, hb8⟩; have hS8 := cellsE hb8 hlt0 ct ct1 ct2 cp cp1 cp2; have HS8 := hid ((HS.out.drewN 1).keep hb8); have HB8 := hid hb8; clear hb8))
        go_wp2
        go_roundw
        case measure => simp [intOf]; omega
        case rel =>
          refine ⟨i, t, rfl, rfl, hmi, hit, by omega, HL, hid ?_, HS8⟩
          exact St.left_no O hpm H2.out HE.out (by omega) (by omega) (by have := HRR.out; omega)
    · have hlt' : decide ((i : Int) < (j : Int)) = false := decide_eq_false (by omega)
      obtain rfl : i = j := by omega
      obtain ⟨i1, hi1⟩ : ∃ i1, i = i1 + 1 := ⟨i - 1, by omega⟩
      have ei1 : (i : Int) - 1 = (i1 : Int) := by omega
      have HI1 := hid hi1
      have hpi1 : p ≤ i1 := by omega
      have hi1n : i1 < n := by omega
      have hwi : IntKind.i64.wrap (i1 : Int) = (i1 : Int) := IntWalk.i64_in _ (by omega)
      clear hi1
      go_wp2
      go_loopw [13] (fun x wr => ∃ k : Nat, x = .int .i64 k ∧ p ≤ k ∧ k ≤ i1 ∧ Hid (SE w0 b o n E (fun x => g (St.mvI p k x)) wr)) (fun x _ => i1 - (intOf x).toNat)
      case atStart => exact ⟨p, rfl, by omega, by omega, hid (HS.out.congr fun x => by rw [St.mv_zero])⟩
      case round =>
        clear HS
        obtain ⟨k, rfl, hpk, hki, HS⟩ := hrel
        by_cases hk : k < i1
        · have hk' : (k : Int) < (i1 : Int) := by omega
          obtain ⟨k1, hk1⟩ : ∃ k1, k1 = k + 1 := ⟨_, rfl⟩
          have ek1 : (k : Int) + 1 = (k1 : Int) := by omega
          have hkn : k < n := by omega
          have hk1n : k1 < n := by omega
          have hkn' : (k : Int) < (n : Int) := by omega
          have hk1n' : (k1 : Int) < (n : Int) := by omega
          obtain ⟨ck, cka, ckb, fk, fka, fkb⟩ := HS.out.row k hkn
          obtain ⟨cl, cla, clb, fl, fla, flb⟩ := HS.out.row k1 hk1n
          have hwk : IntKind.i64.wrap (k1 : Int) = (k1 : Int) := IntWalk.i64_in _ (by omega)
          have hk0 : (0 : Int) ≤ (k1 : Int) := by omega
          have RR := hid (HS.out.swap (h := fun x => g (St.mvI p k1 x)) k k1 hkn hk1n (by omega) (fun x => by rw [hk1, St.mv_step p k hpk]))
          obtain ⟨X, hX⟩ : ∃ X, X = E (g (St.mvI p k k)) := ⟨_, rfl⟩
          obtain ⟨Y, hY⟩ : ∃ Y, Y = E (g (St.mvI p k k1)) := ⟨_, rfl⟩
          rw [← hX] at ck cka ckb RR
          rw [← hY] at cl cla clb RR
          clear hX hY
          have HK := hid hk1
          clear hk1 HS
          go_wp2
          go_region
          go_wp2
          go_roundw
          case measure => have := HK.out; simp [intOf]; omega
          case rel =>
            have := HK.out
            exact ⟨k1, by first | rfl | go_num, by omega, by omega, RR⟩
        · have hk' : decide ((k : Int) < (i1 : Int)) = false := decide_eq_false (by omega)
          obtain rfl : i1 = k := by omega
          go_wp2
          refine bodyPost_ret (results_none rfl _ _ _) rfl ?_
          have hm := HM.out
          have hi := HI1.out
          refine ⟨rfl, _, St.PI.mv g hpk (by omega), ?_, HS.out⟩
          have := St.left_srt (R := R) (a := p) (b := q) (i := i) (g := g) (by rw [← hm]; exact H2.out) (by omega) hjq (fun x x1 x2 => HL.out x (by omega) x2) HR.out
          rw [show i - 1 = i1 by omega] at this
          exact this
set_option maxRecDepth 100000 in
set_option maxHeartbeats 2000000 in
theorem symE_right {E : Nat → Es.Ev} (w0 : World) (b o n c p m q : Nat) (cf : Nat → Nat → Int) (R : Nat → Nat → Prop) (g : Nat → Nat) (w : World) (hC : CmpE E n cf) (O : St.Ord (ltE cf) R) (H : SE w0 b o n E g w)
    (h1 : St.Srt R p m g) (he : St.Erl p m q g) (h12 : q = m + 1) (h3 : p + 1 < m) (h4 : q ≤ n) (hn : n ≤ 1000) :
    Calls Try.prog 58 #[.slice (some ⟨b, o, none⟩) n c, .int .i64 (p : Int), .int .i64 (m : Int), .int .i64 (q : Int), .func (.func 31) #[] #[]] w (MrgE w0 b o n E p q R g) := by
  have HH := hid H
  have HC := hid hC
  have H1 := hid h1
  have HE := hid he
  have HM := hid h12
  obtain ⟨u, hu⟩ : ∃ u, u = m - p := ⟨_, rfl⟩
  have eu : (m : Int) - (p : Int) = (u : Int) := by omega
  have hu1 : ((u : Int) == 1) = false := beq_eq_false_iff_ne.2 (by omega)
  have e1 : (q : Int) - (m : Int) = 1 := by omega
  have hun : u ≤ 1000 := by omega
  have hmn : m < n := by omega
  clear H hC h1 he h12 hu
  go_enter Try.func58, Try.ntmps58
  go_wp2
  go_loopw [14, 15] (fun x y wr => ∃ i j : Nat, x = .int .i64 i ∧ y = .int .i64 j ∧ p ≤ i ∧ i ≤ j ∧ j ≤ m ∧ Hid (∀ z, p ≤ z → z < i → R (g z) (g m)) ∧ Hid (∀ z, j ≤ z → z < m → R (g m) (g z)) ∧ Hid (SE w0 b o n E g wr)) (fun x y _ => (intOf y).toNat - (intOf x).toNat)
  case atStart => exact ⟨p, m, rfl, rfl, by omega, by omega, by omega, hid (fun z z1 z2 => by omega), hid (fun z z1 z2 => by omega), HH⟩
  case round =>
    clear HH
    obtain ⟨i, j, rfl, rfl, hmi, hij, hjq, HL, HR, HS⟩ := hrel
    by_cases hlt : i < j
    · obtain ⟨t, ht⟩ : ∃ t, t = (i + j) / 2 := ⟨_, rfl⟩
      have hlt' : (i : Int) < (j : Int) := by omega
      have et : ((i : Int) + (j : Int)) / 2 = (t : Int) := by omega
      have HT := hid ht
      have htn : t < n := by omega
      have htn' : (t : Int) < (n : Int) := by omega
      have hpn' : (m : Int) < (n : Int) := by omega
      obtain ⟨ct, ct1, ct2, fct, fct1, fct2⟩ := HS.out.row _ htn
      obtain ⟨cp, cp1, cp2, fcp, fcp1, fcp2⟩ := HS.out.row _ hmn
      have hlt0 : b < wr.drew.heap.size := HS.out.lt
      have HCC := hid (HC.out wr.drew (g m) (g t) (HS.out.val m hmn) (HS.out.val t htn))
      have hit : i ≤ t := by omega
      have htj : t < j := by omega
      obtain ⟨r, hr⟩ : ∃ r, r = cf (g m) (g t) := ⟨_, rfl⟩
      rw [← hr] at HCC
      have HRR := hid hr
      obtain ⟨X, hX⟩ : ∃ X, X = E (g t) := ⟨_, rfl⟩
      obtain ⟨Y, hY⟩ : ∃ Y, Y = E (g m) := ⟨_, rfl⟩
      rw [← hX] at ct ct1 ct2 HCC
      rw [← hY] at cp cp1 cp2 HCC
      clear hX hY hr ht
      by_cases hneg : r < 0
      · go_wp2
        go_region_held3 (fun W => W.cell? ⟨b, o + t * 3, none⟩ = some (.int .i64 X.a) ∧ W.cell? ⟨b, o + t * 3 + 1, none⟩ = some (.int .i64 X.d) ∧ W.cell? ⟨b, o + t * 3 + 2, none⟩ = some (.string X.s) ∧ W.cell? ⟨b, o + m * 3, none⟩ = some (.int .i64 Y.a) ∧ W.cell? ⟨b, o + m * 3 + 1, none⟩ = some (.int .i64 Y.d) ∧ W.cell? ⟨b, o + m * 3 + 2, none⟩ = some (.string Y.s)) (first | exact ⟨ct, ct1, ct2, cp, cp1, cp2⟩ | assumption) (first | (go_at_call 31; (with_reducible refine HCC.out.mono ?_); rintro e w8 ⟨rfl, hb8⟩; have hS8 := cellsE hb8 hlt0 ct ct1 ct2 cp cp1 cp2; have HS8 := hid ((HS.out.drewN 1).keep hb8); have HB8 := hid hb8; clear hb8))
        go_wp2
        go_roundw
        case measure => simp [intOf]; omega
        case rel =>
          refine ⟨i, t, rfl, rfl, hmi, hit, by omega, HL, hid ?_, HS8⟩
          exact St.right_yes O H1.out (by rw [← HM.out]; exact HE.out) (by omega) (by omega) (by have := HRR.out; omega)
      · have hneg' : decide (r < 0) = false := decide_eq_false hneg
        go_wp2
        go_region_held3 (fun W => W.cell? ⟨b, o + t * 3, none⟩ = some (.int .i64 X.a) ∧ W.cell? ⟨b, o + t * 3 + 1, none⟩ = some (.int .i64 X.d) ∧ W.cell? ⟨b, o + t * 3 + 2, none⟩ = some (.string X.s) ∧ W.cell? ⟨b, o + m * 3, none⟩ = some (.int .i64 Y.a) ∧ W.cell? ⟨b, o + m * 3 + 1, none⟩ = some (.int .i64 Y.d) ∧ W.cell? ⟨b, o + m * 3 + 2, none⟩ = some (.string Y.s)) (first | exact ⟨ct, ct1, ct2, cp, cp1, cp2⟩ | assumption) (first | (go_at_call 31; (with_reducible refine HCC.out.mono ?_); rintro e w8 ⟨rfl, hb8⟩; have hS8 := cellsE hb8 hlt0 ct ct1 ct2 cp cp1 cp2; have HS8 := hid ((HS.out.drewN 1).keep hb8); have HB8 := hid hb8; clear hb8))
        go_wp2
        go_roundw
        case measure => simp [intOf]; omega
        case rel =>
          refine ⟨t + 1, j, by go_num, rfl, by omega, by omega, hjq, hid ?_, HR, HS8⟩
          exact St.right_no O H1.out (by rw [← HM.out]; exact HE.out) (by omega) (by omega) (by have := HRR.out; omega)
    · have hlt' : decide ((i : Int) < (j : Int)) = false := decide_eq_false (by omega)
      obtain rfl : i = j := by omega
      go_wp2
      go_loopw [17] (fun x wr => ∃ k : Nat, x = .int .i64 k ∧ i ≤ k ∧ k ≤ m ∧ Hid (SE w0 b o n E (fun x => g (St.mrI m k x)) wr)) (fun x _ => (intOf x).toNat - i)
      case atStart => exact ⟨m, rfl, by omega, by omega, hid (HS.out.congr fun x => by rw [St.mr_zero])⟩
      case round =>
        clear HS
        obtain ⟨k, rfl, hpk, hki, HS⟩ := hrel
        by_cases hk : i < k
        · have hk' : (i : Int) < (k : Int) := by omega
          obtain ⟨k1, hk1⟩ : ∃ k1, k = k1 + 1 := ⟨k - 1, by omega⟩
          have ek1 : (k : Int) - 1 = (k1 : Int) := by omega
          have hkn : k < n := by omega
          have hk1n : k1 < n := by omega
          have hkn' : (k : Int) < (n : Int) := by omega
          have hk1n' : (k1 : Int) < (n : Int) := by omega
          obtain ⟨ck, cka, ckb, fk, fka, fkb⟩ := HS.out.row k hkn
          obtain ⟨cl, cla, clb, fl, fla, flb⟩ := HS.out.row k1 hk1n
          have hwk : IntKind.i64.wrap (k1 : Int) = (k1 : Int) := IntWalk.i64_in _ (by omega)
          have hk0 : (0 : Int) ≤ (k1 : Int) := by omega
          have RR := hid (HS.out.swap (h := fun x => g (St.mrI m k1 x)) k k1 hkn hk1n (by omega) (fun x => by rw [hk1, St.mr_step m k1 (by omega)]))
          obtain ⟨X, hX⟩ : ∃ X, X = E (g (St.mrI m k k)) := ⟨_, rfl⟩
          obtain ⟨Y, hY⟩ : ∃ Y, Y = E (g (St.mrI m k k1)) := ⟨_, rfl⟩
          rw [← hX] at ck cka ckb RR
          rw [← hY] at cl cla clb RR
          clear hX hY
          have HK := hid hk1
          clear hk1 HS
          go_wp2
          go_region
          go_wp2
          go_roundw
          case measure => have := HK.out; simp [intOf]; omega
          case rel =>
            have := HK.out
            exact ⟨k1, by first | rfl | go_num, by omega, by omega, RR⟩
        · have hk' : decide ((i : Int) < (k : Int)) = false := decide_eq_false (by omega)
          obtain rfl : i = k := by omega
          go_wp2
          refine bodyPost_ret (results_none rfl _ _ _) rfl ?_
          have hm := HM.out
          refine ⟨rfl, _, St.PI.mr g hmi hki (by omega), ?_, HS.out⟩
          rw [hm]
          exact St.right_srt H1.out hmi hki HL.out HR.out
end Go.Proofs.Ytphbloibldljjaa
