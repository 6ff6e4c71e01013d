
/-
quillkeep.RunsZero: whatever s: it answers true.
-/
import Derived.Test.YthebjelkmopboaaFrHelp
import Derived.Test.YthebjelkmopboaaFrRuns
namespace Go.Proofs.Ythebjelkmopboaa
open Go.RowKit

theorem rep_next {s : ByteArray} {i : Nat} (h : i < s.size) : Rm.rep (lst s) (i + 1) = Rm.rep (lst s) i + if 0 < i ∧ (pg s i) = 0 then 1 else 0 := by
  have e : Rm.rep (lst s) (i + 1) = Rm.rep (lst s) i + if 0 < i ∧ (lst s).getD i 0 = (lst s).getD (i - 1) 0 then 1 else 0 := rfl
  rw [e]
  refine congrArg (Rm.rep (lst s) i + ·) ?_
  by_cases h0 : 0 < i
  · obtain ⟨j, rfl⟩ : ∃ j, i = j + 1 := ⟨i - 1, by omega⟩
    have hz := Fm.putL_zero (s := lst s) (i := j) (by rw [lst_len]; exact h)
    have hp : pg s (j + 1) = 0 ↔ (Fm.putL (lst s)).getD (j + 1) 0 = 0 := by unfold pg; omega
    rw [Nat.add_sub_cancel]
    by_cases e : (lst s).getD (j + 1) 0 = (lst s).getD j 0
    · rw [if_pos ⟨h0, e⟩, if_pos ⟨h0, hp.2 (hz.2 e)⟩]
    · rw [if_neg (fun h => e h.2), if_neg (fun h => e (hz.1 (hp.1 h.2)))]
  · rw [if_neg (fun h => h0 h.1), if_neg (fun h => h0 h.1)]
set_option maxHeartbeats 1000000 in
theorem runsZero_any (s : ByteArray) (_hs : s.size ≤ maxLen) (w : World) :
    Calls Try.prog 7 #[.string s] w fun e w' => e = .returned (.bool true) ∧ Below w.heap.size w w' := by
  by_cases hs : s.size ≤ 200
  · by_cases hz : s.size = 0
    · have hb := no_bytes hz
      go_enter Try.func7, Try.ntmps7
      go_wp2_with fail
      with_reducible refine (fronts_ok _).mono ?_
      rintro e w1 ⟨rfl, hb1⟩
      have HB1 := hid hb1
      clear hb1
      go_wp2_with fail
      with_reducible refine (FPut_ok s _ hs).mono ?_
      rintro e w2 ⟨A, c, rfl, hrow, hb2⟩
      have HB2 := hid (bl_then HB1.out hb2)
      clear hrow hb2 HB1
      go_wp2_with fail
      with_reducible refine (FRuns_ok s _ hs).mono ?_
      rintro e w3 ⟨v, rfl, _, hb3⟩
      have HB3 := hid (bl_then HB2.out hb3)
      clear hb3 HB2
      go_wp2
      go_ret
      exact ⟨rfl, HB3.out⟩
    · have hb := some_bytes (s := s) (by omega)
      obtain ⟨R, hR⟩ : ∃ R, R = Rm.runs (lst s) := ⟨_, rfl⟩
      have hl200 : (lst s).length ≤ 200 := by rw [lst_len]; exact hs
      have hmem := Rm.runs_pos_mem hl200
      have hrm := Rm.rep_more hl200
      have hrl := Rm.rep_len (s := lst s)
      have hre := Rm.runs_ex hl200
      have hRl := Rm.runs_len (lst s)
      rw [← hR] at hmem hrm hrl hre hRl
      rw [lst_len] at hrm hrl hRl
      have hml : ∀ k, k ≤ R.length → 0 ≤ Rm.more R k ∧ Rm.more R k ≤ 200 := by
        intro k hk
        have := Rm.more_le R hmem hk
        rw [hre, lst_len] at this
        omega
      have hb2 : ∀ k, k < R.length → 1 ≤ (R.getD k (0, 0)).2 ∧ (R.getD k (0, 0)).2 ≤ 200 := by
        intro k hk
        have h1 := Rm.runs_bound (lst s) (R.getD k (0, 0)) (by rw [← hR, Fm.getD_lt _ hk]; exact List.getElem_mem hk)
        rw [lst_len] at h1
        omega
      obtain ⟨q, hq⟩ : ∃ q, q = Rm.rep (lst s) s.size := ⟨_, rfl⟩
      have hq200 : q ≤ s.size := by rw [hq]; exact Rm.rep_le _ _
      rw [← hq] at hrm hrl
      have HM := hid hml
      have HN := hid hb2
      have HQ := hid hq
      have HRM := hid hrm
      have HR := hid hR
      have erl : (s.size : Int) - (q : Int) = (R.length : Int) := by omega
      have erw : IntKind.i64.wrap (R.length : Int) = (R.length : Int) := IntWalk.i64_in _ (by omega)
      have hqq : ((q : Int) == (q : Int)) = true := by simp
      have hll : ((R.length : Int) == (R.length : Int)) = true := by simp
      clear hmem hrm hrl hre hml hb2 hq hR hz hl200
      go_enter Try.func7, Try.ntmps7
      go_wp2_with fail
      with_reducible refine (fronts_ok _).mono ?_
      rintro e w1 ⟨rfl, hb1⟩
      have HB1 := hid hb1
      clear hb1
      go_wp2_with fail
      with_reducible refine (FPut_ok s _ hs).mono ?_
      rintro e w2 ⟨A, c, rfl, hrow, hb2⟩
      have HB2 := hid (bl_then HB1.out hb2)
      have HP2 : Hid (IRow w2 A s.size (pg s)) := hrow
      clear hrow hb2 HB1
      go_wp2_with fail
      with_reducible refine (FRuns_ok s _ hs).mono ?_
      rintro e w3 ⟨v, rfl, hown, hb3⟩
      rw [← HR.out] at hown
      obtain ⟨B, d, rfl, hd, hrow⟩ := hown.row
      have HB3 := hid (bl_then HB2.out hb3)
      have HP3 := hid (HP2.out.keep hb3)
      have HR3 := hid hrow
      clear hb3 HB2 HP2 hown hrow HR
      go_wp2
      clear hb
      go_loopw [36, 7] (fun x z wr => ∃ i : Nat, i ≤ s.size ∧ x = .int .i64 (i : Int) ∧ z = .int .i64 (Rm.rep (lst s) i : Nat) ∧ wr = w3) (fun x _ _ => s.size - (intOf x).toNat)
      case atStart => exact ⟨0, by omega, rfl, rfl, rfl⟩
      case round =>
        obtain ⟨i, hi, rfl, rfl, hwr⟩ := hrel
        obtain rfl : w3 = wr := hwr.symm
        by_cases hlt : i < s.size
        · have hlt' : (i : Int) < (s.size : Int) := by omega
          have hnx := rep_next hlt
          have hle := Rm.rep_le (lst s) i
          obtain ⟨x, hx⟩ : ∃ x, x = Rm.rep (lst s) i := ⟨_, rfl⟩
          rw [← hx] at hnx hle
          obtain ⟨b0, o0, rfl, hbl, hc0⟩ := HP3.out.at_ hlt
          obtain ⟨z, hzz⟩ : ∃ z, z = pg s i := ⟨_, rfl⟩
          rw [← hzz] at hc0 hnx
          have HX := hid hx
          rw [← hx]
          clear hzz hbl hx
          have hd1 : (0 : Int) < (i : Int) ∨ ¬ (0 : Int) < (i : Int) := by omega
          by_cases h0 : 0 < i
          · have hdi : decide ((0 : Int) < (i : Int)) = true := decide_eq_true (by omega)
            by_cases hz : z = 0
            · have hze : (z == 0) = true := beq_iff_eq.2 hz
              rw [if_pos ⟨h0, hz⟩] at hnx
              have HE := hid hnx
              clear hz hnx hd1
              go_wp2
              go_roundw
              case measure => simp [intOf]; omega
              case rel => exact ⟨i + 1, by omega, by go_num, by rw [HE.out]; go_num, by trivial⟩
            · have hze : (z == 0) = false := beq_eq_false_iff_ne.2 hz
              rw [if_neg (fun h => hz h.2)] at hnx
              have HE := hid hnx
              clear hz hnx hd1
              go_wp2
              go_roundw
              case measure => simp [intOf]; omega
              case rel => exact ⟨i + 1, by omega, by go_num, by rw [HE.out]; rfl, by trivial⟩
          · have hdi : decide ((0 : Int) < (i : Int)) = false := decide_eq_false (by omega)
            rw [if_neg (fun h => h0 h.1)] at hnx
            have HE := hid hnx
            clear hnx hd1
            go_wp2
            go_roundw
            case measure => simp [intOf]; omega
            case rel => exact ⟨i + 1, by omega, by go_num, by rw [HE.out]; rfl, by trivial⟩
        · have hd : decide ((i : Int) < (s.size : Int)) = false := decide_eq_false (by omega)
          obtain rfl : i = s.size := by omega
          rw [← HQ.out]
          clear HP3
          go_wp2
          go_loopw [52, 8] (fun x z wr => ∃ k : Nat, k ≤ R.length ∧ x = .int .i64 (k : Int) ∧ z = .int .i64 (Rm.more R k) ∧ Hid (Below w3.heap.size w3 wr)) (fun x _ _ => R.length - (intOf x).toNat)
          case atStart => exact ⟨0, by omega, rfl, rfl, Below.refl _ _⟩
          case round =>
            obtain ⟨k, hk, rfl, rfl, HB⟩ := hrel
            by_cases hkl : k < R.length
            · have hkl' : (k : Int) < (R.length : Int) := by omega
              have hm1 := HM.out k hk
              have hm2 := HM.out (k + 1) hkl
              have hn1 := HN.out k hkl
              have hnx : Rm.more R (k + 1) = Rm.more R k + ((R.getD k (0, 0)).2 - 1) := rfl
              obtain ⟨b0, o0, rfl, hbl, hc0, hd0⟩ := HR3.out k hkl
              have hck := (HB.out.cell (p := ⟨b0, o0 + k * 2, none⟩) hbl).trans hc0
              have hdk := (HB.out.cell (p := ⟨b0, o0 + k * 2 + 1, none⟩) hbl).trans hd0
              obtain ⟨y, hy⟩ : ∃ y, y = (R.getD k (0, 0)).2 := ⟨_, rfl⟩
              obtain ⟨c, hc⟩ : ∃ c, c = (R.getD k (0, 0)).1 := ⟨_, rfl⟩
              rw [← hy] at hdk hnx hn1
              rw [← hc] at hck
              obtain ⟨m, hm⟩ : ∃ m, m = Rm.more R k := ⟨_, rfl⟩
              rw [← hm] at hm1 hnx
              rw [hnx] at hm2
              rw [← hm]
              have HE := hid hnx
              have HB1 : Hid (Below w3.heap.size w3 (wr.alloc (.cells #[.int .u8 (c.toNat : Int), .int .i64 y] 39))) := HB.out.alloc HB.out.size _
              have e1w : IntKind.i64.wrap (y - 1) = y - 1 := IntWalk.i64_in _ (by omega)
              have e2w : IntKind.i64.wrap (m + (y - 1)) = m + (y - 1) := IntWalk.i64_in _ (by omega)
              clear hc0 hd0 hbl hy hc hm hnx HB
              go_wp2
              go_roundw
              case measure => simp [intOf]; omega
              case rel => exact ⟨k + 1, by omega, by go_num, by rw [HE.out], HB1⟩
            · have hd : decide ((k : Int) < (R.length : Int)) = false := decide_eq_false (by omega)
              obtain rfl : k = R.length := by omega
              rw [← HRM.out]
              clear HR3 HM HN
              go_wp2
              go_ret
              exact ⟨rfl, bl_then HB3.out HB.out⟩
  · go_enter Try.func7, Try.ntmps7
    go_wp2_with fail
    with_reducible refine (fronts_ok _).mono ?_
    rintro e w1 ⟨rfl, hb1⟩
    have HB1 := hid hb1
    clear hb1
    go_wp2_with fail
    with_reducible refine (FPut_large s _ (by omega)).mono ?_
    rintro e w2 ⟨rfl, rfl⟩
    go_wp2_with fail
    with_reducible refine (FRuns_large s _ (by omega)).mono ?_
    rintro e w2 ⟨rfl, rfl⟩
    go_wp2
    go_ret
    exact ⟨rfl, HB1.out⟩
end Go.Proofs.Ythebjelkmopboaa
