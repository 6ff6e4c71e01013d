
/-
The contract of slices.symMergeCmpFunc at []int, with turn.order's closure.
-/
import Derived.Test.YtejcijlmpiiffaaStabInt
namespace Go.Proofs.Ytejcijlmpiiffaa
open Go.RowKit

/-- What a merge of [p, m) and [m, q) leaves. -/
def MrgI (w0 : World) (b n p q : Nat) (R : Nat → Nat → Prop) (g : Nat → Nat) (e : Ending) (w' : World) : Prop :=
  e = .returned (.tuple #[]) ∧ ∃ h, St.PI p q g h ∧ St.Srt R p q h ∧ SI w0 b n h w'
set_option maxRecDepth 100000 in
theorem symI_left (w0 : World) (b n c p m q : Nat) (cf : Nat → Nat → Int) (V1 V2 : Value) (R : Nat → Nat → Prop) (g : Nat → Nat) (w : World) (hC : CmpI w0 b n cf V1 V2) (O : St.Ord (ltI cf) R) (H : SI w0 b n g w)
    (h2 : St.Srt R m q g) (he : St.Erl p m q g) (h12 : m = p + 1) (h3 : m < q) (h4 : q ≤ n) (hn : n ≤ 1000) :
    Calls Try.prog 57 #[.slice (some ⟨b, 0, none⟩) n c, .int .i64 (p : Int), .int .i64 (m : Int), .int .i64 (q : Int), .func (.func 52) #[] #[V1, V2]] w (MrgI w0 b n p q R g) := by
  have HH := hid H
  have HC := hid hC
  have H2 := hid h2
  have HE := hid he
  have HM := hid h12
  have e1 : (m : Int) - (p : Int) = 1 := by omega
  have hpm : p < m := by omega
  clear H hC h2 he h12
  go_enter Try.func57, Try.ntmps57
  go_wp2
  go_loopw [10, 11] (fun x y wr => ∃ i j : Nat, x = .int .i64 i ∧ y = .int .i64 j ∧ m ≤ i ∧ i ≤ j ∧ j ≤ q ∧ Hid (∀ z, m ≤ z → z < i → R (g z) (g p)) ∧ Hid (∀ z, j ≤ z → z < q → R (g p) (g z)) ∧ Hid (SI w0 b n g wr)) (fun x y _ => (intOf y).toNat - (intOf x).toNat)
  case atStart => exact ⟨m, q, rfl, rfl, by omega, by omega, by omega, hid (fun z z1 z2 => by omega), hid (fun z z1 z2 => by omega), HH⟩
  case round =>
    clear HH
    obtain ⟨i, j, rfl, rfl, hmi, hij, hjq, HL, HR, HS⟩ := hrel
    by_cases hlt : i < j
    · obtain ⟨t, ht⟩ : ∃ t, t = (i + j) / 2 := ⟨_, rfl⟩
      have hlt' : (i : Int) < (j : Int) := by omega
      have et : ((i : Int) + (j : Int)) / 2 = (t : Int) := by omega
      have HT := hid ht
      have htn : t < n := by omega
      have htn' : (t : Int) < (n : Int) := by omega
      have hpn : p < n := by omega
      have hpn' : (p : Int) < (n : Int) := by omega
      have ct := HS.out.row.cell htn
      have cp := HS.out.row.cell hpn
      have HCC := hid (fun d => HC.out (wr.drewN d) (HS.out.drewN d).gr (g t) (g p) (HS.out.val t htn) (HS.out.val p hpn))
      have hit : i ≤ t := by omega
      have htj : t < j := by omega
      obtain ⟨r, hr⟩ : ∃ r, r = cf (g t) (g p) := ⟨_, rfl⟩
      rw [← hr] at HCC
      have HRR := hid hr
      obtain ⟨X, hX⟩ : ∃ X, X = g t := ⟨_, rfl⟩
      obtain ⟨Y, hY⟩ : ∃ Y, Y = g p := ⟨_, rfl⟩
      rw [← hX] at ct HCC
      rw [← hY] at cp HCC
      clear hX hY hr ht
      by_cases hneg : r < 0
      · go_wp2
        go_quiet ((go_at_call 52; exact (HCC.out _).mono fun e w' h => ⟨h.1, quiet_d0 h.2⟩))
        go_wp2
        go_roundw
        case measure => simp [intOf]; omega
        case rel =>
          refine ⟨t + 1, j, by go_num, rfl, by omega, by omega, hjq, hid ?_, HR, hid (HS.out.drewN _)⟩
          exact St.left_yes O hpm H2.out HE.out (by omega) (by omega) (by have := HRR.out; omega)
      · have hneg' : decide (r < 0) = false := decide_eq_false hneg
        go_wp2
        go_quiet ((go_at_call 52; exact (HCC.out _).mono fun e w' h => ⟨h.1, quiet_d0 h.2⟩))
        go_wp2
        go_roundw
        case measure => simp [intOf]; omega
        case rel =>
          refine ⟨i, t, rfl, rfl, hmi, hit, by omega, HL, hid ?_, hid (HS.out.drewN _)⟩
          exact St.left_no O hpm H2.out HE.out (by omega) (by omega) (by have := HRR.out; omega)
    · have hlt' : decide ((i : Int) < (j : Int)) = false := decide_eq_false (by omega)
      obtain rfl : i = j := by omega
      obtain ⟨i1, hi1⟩ : ∃ i1, i = i1 + 1 := ⟨i - 1, by omega⟩
      have ei1 : (i : Int) - 1 = (i1 : Int) := by omega
      have HI1 := hid hi1
      have hpi1 : p ≤ i1 := by omega
      have hi1n : i1 < n := by omega
      have hwi : IntKind.i64.wrap (i1 : Int) = (i1 : Int) := IntWalk.i64_in _ (by omega)
      clear hi1
      go_wp2
      go_loopw [13] (fun x wr => ∃ k : Nat, x = .int .i64 k ∧ p ≤ k ∧ k ≤ i1 ∧ Hid (SI w0 b n (fun x => g (St.mvI p k x)) wr)) (fun x _ => i1 - (intOf x).toNat)
      case atStart => exact ⟨p, rfl, by omega, by omega, hid (HS.out.congr fun x => by rw [St.mv_zero])⟩
      case round =>
        clear HS
        obtain ⟨k, rfl, hpk, hki, HS⟩ := hrel
        by_cases hk : k < i1
        · have hk' : (k : Int) < (i1 : Int) := by omega
          obtain ⟨k1, hk1⟩ : ∃ k1, k1 = k + 1 := ⟨_, rfl⟩
          have ek1 : (k : Int) + 1 = (k1 : Int) := by omega
          have hkn : k < n := by omega
          have hk1n : k1 < n := by omega
          have hkn' : (k : Int) < (n : Int) := by omega
          have hk1n' : (k1 : Int) < (n : Int) := by omega
          have ck := HS.out.row.cell hkn
          have ck1 := HS.out.row.cell hk1n
          have fk := HS.out.row.frozen k
          have fk1 := HS.out.row.frozen k1
          have hwk : IntKind.i64.wrap (k1 : Int) = (k1 : Int) := IntWalk.i64_in _ (by omega)
          have hk0 : (0 : Int) ≤ (k1 : Int) := by omega
          have RR := hid (HS.out.swap (h := fun x => g (St.mvI p k1 x)) k k1 hkn hk1n (fun x => by rw [hk1, St.mv_step p k hpk]))
          have HK := hid hk1
          clear hk1 HS
          go_wp2
          go_region
          go_wp2
          go_roundw
          case measure => have := HK.out; simp [intOf]; omega
          case rel =>
            have := HK.out
            exact ⟨k1, by first | rfl | go_num, by omega, by omega, hid (RR.out _)⟩
        · have hk' : decide ((k : Int) < (i1 : Int)) = false := decide_eq_false (by omega)
          obtain rfl : i1 = k := by omega
          go_wp2
          refine bodyPost_ret (results_none rfl _ _ _) rfl ?_
          have hm := HM.out
          have hi := HI1.out
          refine ⟨rfl, _, St.PI.mv g hpk (by omega), ?_, HS.out⟩
          have := St.left_srt (R := R) (a := p) (b := q) (i := i) (g := g) (by rw [← hm]; exact H2.out) (by omega) hjq (fun x x1 x2 => HL.out x (by omega) x2) HR.out
          rw [show i - 1 = i1 by omega] at this
          exact this
set_option maxRecDepth 100000 in
theorem symI_right (w0 : World) (b n c p m q : Nat) (cf : Nat → Nat → Int) (V1 V2 : Value) (R : Nat → Nat → Prop) (g : Nat → Nat) (w : World) (hC : CmpI w0 b n cf V1 V2) (O : St.Ord (ltI cf) R) (H : SI w0 b n g w)
    (h1 : St.Srt R p m g) (he : St.Erl p m q g) (h12 : q = m + 1) (h3 : p + 1 < m) (h4 : q ≤ n) (hn : n ≤ 1000) :
    Calls Try.prog 57 #[.slice (some ⟨b, 0, none⟩) n c, .int .i64 (p : Int), .int .i64 (m : Int), .int .i64 (q : Int), .func (.func 52) #[] #[V1, V2]] w (MrgI w0 b n p q R g) := by
  have HH := hid H
  have HC := hid hC
  have H1 := hid h1
  have HE := hid he
  have HM := hid h12
  obtain ⟨u, hu⟩ : ∃ u, u = m - p := ⟨_, rfl⟩
  have eu : (m : Int) - (p : Int) = (u : Int) := by omega
  have hu1 : ((u : Int) == 1) = false := beq_eq_false_iff_ne.2 (by omega)
  have e1 : (q : Int) - (m : Int) = 1 := by omega
  have hun : u ≤ 1000 := by omega
  have hmn : m < n := by omega
  clear H hC h1 he h12 hu
  go_enter Try.func57, Try.ntmps57
  go_wp2
  go_loopw [14, 15] (fun x y wr => ∃ i j : Nat, x = .int .i64 i ∧ y = .int .i64 j ∧ p ≤ i ∧ i ≤ j ∧ j ≤ m ∧ Hid (∀ z, p ≤ z → z < i → R (g z) (g m)) ∧ Hid (∀ z, j ≤ z → z < m → R (g m) (g z)) ∧ Hid (SI w0 b n g wr)) (fun x y _ => (intOf y).toNat - (intOf x).toNat)
  case atStart => exact ⟨p, m, rfl, rfl, by omega, by omega, by omega, hid (fun z z1 z2 => by omega), hid (fun z z1 z2 => by omega), HH⟩
  case round =>
    clear HH
    obtain ⟨i, j, rfl, rfl, hmi, hij, hjq, HL, HR, HS⟩ := hrel
    by_cases hlt : i < j
    · obtain ⟨t, ht⟩ : ∃ t, t = (i + j) / 2 := ⟨_, rfl⟩
      have hlt' : (i : Int) < (j : Int) := by omega
      have et : ((i : Int) + (j : Int)) / 2 = (t : Int) := by omega
      have HT := hid ht
      have htn : t < n := by omega
      have htn' : (t : Int) < (n : Int) := by omega
      have hpn' : (m : Int) < (n : Int) := by omega
      have ct := HS.out.row.cell htn
      have cp := HS.out.row.cell hmn
      have HCC := hid (fun d => HC.out (wr.drewN d) (HS.out.drewN d).gr (g m) (g t) (HS.out.val m hmn) (HS.out.val t htn))
      have hit : i ≤ t := by omega
      have htj : t < j := by omega
      obtain ⟨r, hr⟩ : ∃ r, r = cf (g m) (g t) := ⟨_, rfl⟩
      rw [← hr] at HCC
      have HRR := hid hr
      obtain ⟨X, hX⟩ : ∃ X, X = g t := ⟨_, rfl⟩
      obtain ⟨Y, hY⟩ : ∃ Y, Y = g m := ⟨_, rfl⟩
      rw [← hX] at ct HCC
      rw [← hY] at cp HCC
      clear hX hY hr ht
      by_cases hneg : r < 0
      · go_wp2
        go_quiet ((go_at_call 52; exact (HCC.out _).mono fun e w' h => ⟨h.1, quiet_d0 h.2⟩))
        go_wp2
        go_roundw
        case measure => simp [intOf]; omega
        case rel =>
          refine ⟨i, t, rfl, rfl, hmi, hit, by omega, HL, hid ?_, hid (HS.out.drewN _)⟩
          exact St.right_yes O H1.out (by rw [← HM.out]; exact HE.out) (by omega) (by omega) (by have := HRR.out; omega)
      · have hneg' : decide (r < 0) = false := decide_eq_false hneg
        go_wp2
        go_quiet ((go_at_call 52; exact (HCC.out _).mono fun e w' h => ⟨h.1, quiet_d0 h.2⟩))
        go_wp2
        go_roundw
        case measure => simp [intOf]; omega
        case rel =>
          refine ⟨t + 1, j, by go_num, rfl, by omega, by omega, hjq, hid ?_, HR, hid (HS.out.drewN _)⟩
          exact St.right_no O H1.out (by rw [← HM.out]; exact HE.out) (by omega) (by omega) (by have := HRR.out; omega)
    · have hlt' : decide ((i : Int) < (j : Int)) = false := decide_eq_false (by omega)
      obtain rfl : i = j := by omega
      go_wp2
      go_loopw [17] (fun x wr => ∃ k : Nat, x = .int .i64 k ∧ i ≤ k ∧ k ≤ m ∧ Hid (SI w0 b n (fun x => g (St.mrI m k x)) wr)) (fun x _ => (intOf x).toNat - i)
      case atStart => exact ⟨m, rfl, by omega, by omega, hid (HS.out.congr fun x => by rw [St.mr_zero])⟩
      case round =>
        clear HS
        obtain ⟨k, rfl, hpk, hki, HS⟩ := hrel
        by_cases hk : i < k
        · have hk' : (i : Int) < (k : Int) := by omega
          obtain ⟨k1, hk1⟩ : ∃ k1, k = k1 + 1 := ⟨k - 1, by omega⟩
          have ek1 : (k : Int) - 1 = (k1 : Int) := by omega
          have hkn : k < n := by omega
          have hk1n : k1 < n := by omega
          have hkn' : (k : Int) < (n : Int) := by omega
          have hk1n' : (k1 : Int) < (n : Int) := by omega
          have ck := HS.out.row.cell hkn
          have ck1 := HS.out.row.cell hk1n
          have fk := HS.out.row.frozen k
          have fk1 := HS.out.row.frozen k1
          have hwk : IntKind.i64.wrap (k1 : Int) = (k1 : Int) := IntWalk.i64_in _ (by omega)
          have hk0 : (0 : Int) ≤ (k1 : Int) := by omega
          have RR := hid (HS.out.swap (h := fun x => g (St.mrI m k1 x)) k k1 hkn hk1n (fun x => by rw [hk1, St.mr_step m k1 (by omega)]))
          have HK := hid hk1
          clear hk1 HS
          go_wp2
          go_region
          go_wp2
          go_roundw
          case measure => have := HK.out; simp [intOf]; omega
          case rel =>
            have := HK.out
            exact ⟨k1, by first | rfl | go_num, by omega, by omega, hid (RR.out _)⟩
        · have hk' : decide ((i : Int) < (k : Int)) = false := decide_eq_false (by omega)
          obtain rfl : i = k := by omega
          go_wp2
          refine bodyPost_ret (results_none rfl _ _ _) rfl ?_
          have hm := HM.out
          refine ⟨rfl, _, St.PI.mr g hmi hki (by omega), ?_, HS.out⟩
          rw [hm]
          exact St.right_srt H1.out hmi hki HL.out HR.out
end Go.Proofs.Ytejcijlmpiiffaa
