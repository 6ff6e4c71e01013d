
/-
quillkeep.FrontBack: whatever s: it answers true.
-/
import Derived.Test.YthebjelkmopboaaFrHelp
namespace Go.Proofs.Ythebjelkmopboaa
open Go.RowKit

set_option maxHeartbeats 1000000 in
theorem frontBack_any (s : ByteArray) (_hs : s.size ≤ maxLen) (w : World) :
    Calls Try.prog 4 #[.string s] w fun e w' => e = .returned (.bool true) ∧ Below w.heap.size w w' := by
  by_cases hs : s.size ≤ 200
  · have hss : (s.toList == s.toList) = true := beq_self_eq_true _
    have hzz : ((s.size : Int) == (s.size : Int)) = true := by simp
    go_enter Try.func4, Try.ntmps4
    go_wp2_with fail
    with_reducible refine (fronts_ok _).mono ?_
    rintro e w1 ⟨rfl, hb1⟩
    have HB1 := hid hb1
    clear hb1
    go_wp2_with fail
    with_reducible refine (FPut_ok s _ hs).mono ?_
    rintro e w2 ⟨A, c, rfl, hrow, hb⟩
    have HB2 := hid (bl_then HB1.out hb)
    have HR2 : Hid (IRow w2 A s.size (pg s)) := hrow
    clear hb hrow HB1
    go_wp2_with fail
    with_reducible refine (FGet_put s _ hs HR2.out).mono ?_
    rintro e w3 ⟨rfl, hb⟩
    have HB3 := hid (bl_then HB2.out hb)
    have HR3 := hid (HR2.out.keep hb)
    clear hb HB2 HR2
    have hone : 1 ≤ s.size + 1 := by omega
    go_wp2
    go_loopw [7] (fun x wr => ∃ i : Nat, 1 ≤ i ∧ i ≤ s.size + 1 ∧ x = .int .i64 (i : Int) ∧ ∃ d, wr = w3.drewN d) (fun x _ => s.size + 1 - (intOf x).toNat)
    case atStart => exact ⟨1, by omega, by omega, rfl, 0, rfl⟩
    case round =>
      obtain ⟨i, hi1, hi2, rfl, d, rfl⟩ := hrel
      by_cases hlt : i < s.size
      · have hlt' : (i : Int) < (s.size : Int) := by omega
        obtain ⟨j, hj⟩ : ∃ j, i = j + 1 := ⟨i - 1, by omega⟩
        have ej : (i : Int) - 1 = (j : Int) := by omega
        have ejw : IntKind.i64.wrap (j : Int) = (j : Int) := IntWalk.i64_in _ (by omega)
        have hjs : j < s.size := by omega
        have hjs' : (j : Int) < (s.size : Int) := by omega
        obtain ⟨b0, o0, rfl, hbl, hc0⟩ := HR3.out.at_ hlt
        have hz := Fm.putL_zero (s := lst s) (i := j) (by rw [lst_len]; omega)
        rw [← hj, lst_get, lst_get, byt_eq hlt, byt_eq hjs] at hz
        obtain ⟨z, hzz⟩ : ∃ z, z = pg s i := ⟨_, rfl⟩
        have hzi : z = 0 ↔ s[i] = s[j] := by
          rw [← hz, hzz]
          unfold pg
          omega
        rw [← hzz] at hc0
        have HJ := hid hj
        clear hz hzz hj hbl
        by_cases he : s[i] = s[j]
        · have h1 : (z == 0) = true := beq_iff_eq.2 (hzi.2 he)
          have h2 : ((s[i].toNat : Int) == (s[j].toNat : Int)) = true := by rw [he]; simp
          clear hzi he
          go_wp2
          go_quiet (fail)
          go_wp2
          go_roundw
          case measure => simp [intOf]; omega
          case rel => exact ⟨i + 1, by omega, by omega, by go_num, _, rfl⟩
        · have h1 : (z == 0) = false := beq_eq_false_iff_ne.2 (fun h => he (hzi.1 h))
          have h2 : ((s[i].toNat : Int) == (s[j].toNat : Int)) = false := (byte_ne he).2
          clear hzi he
          go_wp2
          go_quiet (fail)
          go_wp2
          go_roundw
          case measure => simp [intOf]; omega
          case rel => exact ⟨i + 1, by omega, by omega, by go_num, _, rfl⟩
      · have hd : decide ((i : Int) < (s.size : Int)) = false := decide_eq_false (by omega)
        clear HR3
        go_wp2
        go_ret
        exact ⟨rfl, bl_drewN HB3.out _⟩
  · go_enter Try.func4, Try.ntmps4
    go_wp2_with fail
    with_reducible refine (fronts_ok _).mono ?_
    rintro e w1 ⟨rfl, hb1⟩
    have HB1 := hid hb1
    clear hb1
    go_wp2_with fail
    with_reducible refine (FPut_large s _ (by omega)).mono ?_
    rintro e w2 ⟨rfl, rfl⟩
    go_wp2
    go_ret
    exact ⟨rfl, HB1.out⟩
end Go.Proofs.Ythebjelkmopboaa
