
/-
The contract of shift.checkSteps; what All answers (AllPost).
-/
import Derived.Test.YtgkagigagcamoaaShP
import Derived.Test.YtgkagigagcamoaaOpWr
import Derived.Test.YtgkagigagcamoaaShCk
namespace Go.Proofs.Ytgkagigagcamoaa
open Go.RowKit

/-- Two rows of ops and an error: the rows are the call's own, and lie beside each other. -/
def AllPost (n : Int) (A B : List Sh.Op) (w : World) (e : Ending) (w' : World) : Prop :=
  ∃ (C : Option Addr) (c : Nat) (D : Option Addr) (d : Nat) (u v : List Sh.Op) (x : Int), e = .returned (.tuple #[.slice C u.length c, .slice D v.length d, .int .i64 x]) ∧ AllIs n A B u v x ∧
    OwnO w' w.heap.size (.slice C u.length c) u ∧ OwnO w' w.heap.size (.slice D v.length d) v ∧ (∀ k, (Value.slice C u.length c).ownBlock = some k → (Value.slice D v.length d).ownBlock ≠ some k) ∧ Below w.heap.size w w'
theorem ops_range {n : Int} {x : Sh.Op} (h : Sh.opErr n x = 0) : 0 ≤ n ∧ n ≤ 200 := by
  obtain ⟨h1, h2, _⟩ := Sh.err_zero.1 h
  exact ⟨h1.1, h2⟩
set_option maxHeartbeats 4000000 in
theorem steps_any {A : Option Addr} {r cx : Nat} {f : Nat → Sh.Op} (C n m : Int) (w : World) (h : OpIn w A r f) (hn : N64 n) (hm : m = 200 - C) (hC : 0 ≤ C ∧ C ≤ 60) :
    Calls Try.prog 40 #[.int .i64 n, .int .i64 m, .slice A r cx] w fun e w' => e = .returned (.int .i64 (Sh.sErr C n (ol f r))) ∧ Below w.heap.size w w' := by
  have HIN := hid h
  have HM := hid hm
  have HN := hid hn
  have HC := hid hC
  have hrm : r ≤ 9223372036854775807 := by have := h.len; unfold maxLen at this; omega
  clear h hm hn hC
  go_enter Try.func40, Try.ntmps40
  go_wp2
  go_loopw [0, 12] (fun v x wr => ∃ (i : Nat) (N : Int), i ≤ r ∧ x = .int .i64 (i : Int) ∧ v = .int .i64 N ∧ Hid (N64 N) ∧ Hid (Sh.sErr C n (ol f r) = Sh.sErr C N ((ol f r).drop i)) ∧ Hid (Below w.heap.size w wr)) (fun _ x _ => r - (intOf x).toNat)
  case atStart => exact ⟨0, n, by omega, rfl, rfl, HN.out, by show _ = _; rw [List.drop_zero], Below.refl _ _⟩
  case round =>
    obtain ⟨i, N, hi, rfl, rfl, HN2, HS, HU⟩ := hrel
    by_cases hir : i < r
    · obtain ⟨b, o, rfl, hlt, d0, d1, d2⟩ := (HIN.out.row.keep HU.out) i hir
      have hir' : (i : Int) < (r : Int) := by omega
      obtain ⟨x, hx⟩ : ∃ x, x = f i := ⟨_, rfl⟩
      have hxw := HIN.out.wf i hir
      have hdr : (ol f r).drop i = x :: (ol f r).drop (i + 1) := by rw [hx]; exact ol_drop hir
      rw [← hx] at d0 d1 d2 hxw
      rw [hdr] at HS
      obtain ⟨x0, x1, x2⟩ := op_new wr x 23
      have HU2 := hid (bl_then HU.out (bl_new wr (.cells #[.int .i64 x.k, .int .i64 x.a, .int .u8 (x.b.toNat : Int)] 23)))
      have HXC := hid (op_new wr x 23)
      have HNL : Hid (wr.heap.size < (wr.alloc (.cells #[.int .i64 x.k, .int .i64 x.a, .int .u8 (x.b.toNat : Int)] 23)).heap.size) := by show _ < _; simp
      have HXW := hid hxw
      clear hx hdr hxw
      go_wp2_with fail
      with_reducible refine (SCheck_any N x _ HN2.out HXW.out).mono ?_
      rintro e w8 ⟨rfl, hb8⟩
      have HU3 := hid (bl_then HU2.out hb8)
      have y0 := (hb8.cell (p := ⟨wr.heap.size, 0, none⟩) HNL.out).trans HXC.out.1
      have y1 := (hb8.cell (p := ⟨wr.heap.size, 1, none⟩) HNL.out).trans HXC.out.2.1
      have y2 := (hb8.cell (p := ⟨wr.heap.size, 2, none⟩) HNL.out).trans HXC.out.2.2
      obtain ⟨z, hz⟩ : ∃ z, z = Sh.opErr N x := ⟨_, rfl⟩
      rw [← hz]
      have HZZ := hid hz
      clear hb8 hz x0 x1 x2
      by_cases hz0 : z = 0
      · subst hz0
        have hm2 := ops_range HZZ.out.symm
        have hS2 : Hid (Sh.sErr C n (ol f r) = Sh.sErr C (N + Sh.lon x) ((ol f r).drop (i + 1))) := by
          show _ = _
          rw [HS.out]
          simp only [Sh.sErr]
          rw [if_pos HZZ.out.symm]
        by_cases k1 : x.k = 1
        · have k1' := beq_iff_eq.2 k1
          have hlon : Hid (Sh.lon x = 1) := by show _ = _; unfold Sh.lon; rw [if_pos k1]
          have hwd : IntKind.i64.wrap (N + 1) = N + 1 := IntWalk.i64_in _ (by omega)
          have HN3 : Hid (N64 (N + 1)) := by show N64 _; unfold N64; omega
          clear k1 hm2
          go_wp2
          go_roundw
          case measure => simp [intOf]; omega
          case rel => exact ⟨i + 1, N + 1, by omega, by go_num, rfl, HN3.out, by have := hS2.out; rw [hlon.out] at this; exact this, HU3⟩
        · have k1' := beq_eq_false_iff_ne.2 k1
          by_cases k2 : x.k = 2
          · have k2' := beq_iff_eq.2 k2
            have hlon : Hid (Sh.lon x = -1) := by show _ = _; unfold Sh.lon; rw [if_neg k1, if_pos k2]
            have hwd : IntKind.i64.wrap (N - 1) = N - 1 := IntWalk.i64_in _ (by omega)
            have HN3 : Hid (N64 (N - 1)) := by show N64 _; unfold N64; omega
            clear k1 k2 hm2
            go_wp2
            go_roundw
            case measure => simp [intOf]; omega
            case rel => exact ⟨i + 1, N - 1, by omega, by go_num, rfl, HN3.out, by have := hS2.out; rw [hlon.out] at this; exact this, HU3⟩
          · have k2' := beq_eq_false_iff_ne.2 k2
            have hlon : Hid (Sh.lon x = 0) := by show _ = _; unfold Sh.lon; rw [if_neg k1, if_neg k2]
            clear k1 k2 hm2
            go_wp2
            go_roundw
            case measure => simp [intOf]; omega
            case rel => exact ⟨i + 1, N, by omega, by go_num, rfl, HN2.out, by have := hS2.out; rw [hlon.out, Int.add_zero] at this; exact this, HU3⟩
      · have hzz : (z != 0) = true := bne_iff_ne.2 hz0
        have hzz' : (z == 0) = false := beq_eq_false_iff_ne.2 hz0
        have HF : Hid (Sh.sErr C n (ol f r) = z) := by
          show _ = _
          rw [HS.out]
          simp only [Sh.sErr]
          rw [if_neg (by rw [← HZZ.out]; exact hz0), ← HZZ.out]
        clear hz0 HS
        go_wp2
        go_ret
        exact ⟨by rw [HF.out]; rfl, HU3.out⟩
    · obtain rfl : i = r := by omega
      have hkd : decide ((i : Int) < (i : Int)) = false := decide_eq_false (by omega)
      have he : Sh.sErr C n (ol f i) = if 200 < N + C then 11 else 0 := by
        rw [HS.out, ol_end]
        simp only [Sh.sErr]
      have HE := hid he
      have hm2 := HM.out
      by_cases hgt : m < N
      · have hgt' := decide_eq_true hgt
        have HF : Hid (Sh.sErr C n (ol f i) = 11) := by show _ = _; rw [HE.out, if_pos (by omega)]
        clear hgt he hm2 HE
        go_wp2
        go_ret
        exact ⟨by rw [HF.out]; rfl, HU.out⟩
      · have hgt' := decide_eq_false hgt
        have HF : Hid (Sh.sErr C n (ol f i) = 0) := by show _ = _; rw [HE.out, if_neg (by omega)]
        clear hgt he hm2 HE
        go_wp2
        go_ret
        exact ⟨by rw [HF.out]; rfl, HU.out⟩
end Go.Proofs.Ytgkagigagcamoaa
