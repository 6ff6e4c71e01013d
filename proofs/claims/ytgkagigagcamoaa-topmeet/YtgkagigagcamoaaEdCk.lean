
/-
The contracts of edit.growth, checkEdit, Check.
-/
import Derived.Test.YtgkagigagcamoaaEdPost
import Derived.Test.YtgkagigagcamoaaEdStep
import Derived.Test.YtgkagigagcamoaaRefEd2

namespace Go.Proofs.Ytgkagigagcamoaa
open Go.RowKit

/-- The three cells of an edit in a block of its own. -/
def EvAt (w : World) (b : Nat) (x : Es.Ev) : Prop := b < w.heap.size ∧ w.cell? ⟨b, 0, none⟩ = some (.int .i64 x.a) ∧ w.cell? ⟨b, 1, none⟩ = some (.int .i64 x.d) ∧ w.cell? ⟨b, 2, none⟩ = some (.string x.s)
theorem EvAt.keep {w w' : World} {b : Nat} {x : Es.Ev} (h : EvAt w b x) (hb : Below w.heap.size w w') : EvAt w' b x :=
  ⟨Nat.lt_of_lt_of_le h.1 hb.size, (hb.cell (p := ⟨b, 0, none⟩) h.1).trans h.2.1, (hb.cell (p := ⟨b, 1, none⟩) h.1).trans h.2.2.1, (hb.cell (p := ⟨b, 2, none⟩) h.1).trans h.2.2.2⟩
theorem EvAt.new (w : World) (x : Es.Ev) (t : TypeId) (N : Nat) (hN : w.heap.size = N) : EvAt (w.alloc (.cells #[.int .i64 x.a, .int .i64 x.d, .string x.s] t)) N x := by
  subst hN
  have := ev_new w x t
  exact ⟨by simp, this.1, this.2.1, this.2.2⟩
theorem growth_ok (x : Es.Ev) (w : World) (hb : -1000000 ≤ (x.s.size : Int) - x.d ∧ (x.s.size : Int) - x.d ≤ 1000000) :
    Calls Try.prog 64 #[.agg #[.int .i64 x.a, .int .i64 x.d, .string x.s]] w fun e w' => e = .returned (.int .i64 ((x.s.size : Int) - x.d)) ∧ Below w.heap.size w w' := by
  have hw1 : IntKind.i64.wrap ((x.s.size : Int) - x.d) = (x.s.size : Int) - x.d := IntWalk.i64_in _ (by omega)
  obtain ⟨hca0, hca1, hca2⟩ := ev_new w x 59
  go_enter Try.func64, Try.ntmps64
  go_wp2
  go_ret
  exact ⟨rfl, bl_new w _⟩
theorem checkEdit_any (N E : Int) (x : Es.Ev) (w : World) (hx : EvWf x) (h0 : 0 ≤ N) (h2 : N ≤ 200) :
    Calls Try.prog 63 #[.int .i64 N, .agg #[.int .i64 x.a, .int .i64 x.d, .string x.s], .int .i64 E] w fun e w' => e = .returned (.int .i64 (Es.one N E x)) ∧ Below w.heap.size w w' := by
  obtain ⟨hca0, hca1, hca2⟩ := ev_new w x 59
  have HB := hid (bl_new w (.cells #[.int .i64 x.a, .int .i64 x.d, .string x.s] 59))
  obtain ⟨R, hR⟩ : ∃ R, R = Es.one N E x := ⟨_, rfl⟩
  rw [← hR]
  have hxa := hx.a1
  have hxb := hx.a2
  clear hx
  by_cases a1 : x.a < 0
  · have HR : Hid (R = 1) := hR.trans (if_pos (.inl a1))
    have a1t : decide (x.a < 0) = true := decide_eq_true a1
    clear hR
    go_enter Try.func63, Try.ntmps63
    go_wp2
    go_ret
    exact ⟨by rw [HR.out]; rfl, HB.out⟩
  · have a1' : decide (x.a < 0) = false := decide_eq_false a1
    by_cases a2 : x.d < 0
    · have HR : Hid (R = 1) := hR.trans (if_pos (.inr (.inr (.inl a2))))
      have a2t : decide (x.d < 0) = true := decide_eq_true a2
      clear hR
      go_enter Try.func63, Try.ntmps63
      go_wp2
      go_ret
      exact ⟨by rw [HR.out]; rfl, HB.out⟩
    · have a2' : decide (x.d < 0) = false := decide_eq_false a2
      obtain ⟨m, hm⟩ : ∃ m, m = N - x.a := ⟨_, rfl⟩
      have hm' : N - x.a = m := hm.symm
      have hmw : IntKind.i64.wrap m = m := IntWalk.i64_in _ (by omega)
      by_cases a3 : m < x.d
      · have HR : Hid (R = 1) := hR.trans (if_pos (by omega))
        have a3t : decide (m < x.d) = true := decide_eq_true a3
        clear hR hm
        go_enter Try.func63, Try.ntmps63
        go_wp2
        go_ret
        exact ⟨by rw [HR.out]; rfl, HB.out⟩
      · have a3' : decide (m < x.d) = false := decide_eq_false a3
        have hone : Es.one N E x = if 40 < x.s.size then 2 else if x.d = 0 ∧ x.s.size = 0 then 5 else if x.a ≤ E then 6 else 0 := if_neg (by omega)
        rw [hone] at hR
        clear hone hm
        by_cases a4 : 40 < x.s.size
        · have HR : Hid (R = 2) := hR.trans (if_pos a4)
          have a4t : (40 : Int) < (x.s.size : Int) := by omega
          clear hR
          go_enter Try.func63, Try.ntmps63
          go_wp2
          go_ret
          exact ⟨by rw [HR.out]; rfl, HB.out⟩
        · have a4' : decide ((40 : Int) < (x.s.size : Int)) = false := decide_eq_false (by omega)
          rw [if_neg a4] at hR
          by_cases a5 : x.d = 0
          · by_cases a6 : x.s.size = 0
            · have HR : Hid (R = 5) := hR.trans (if_pos ⟨a5, a6⟩)
              have a5t : (x.d == 0) = true := by rw [a5]; rfl
              have a6t : x.s.toList.isEmpty = true := no_bytes a6
              clear hR a5 a6
              go_enter Try.func63, Try.ntmps63
              go_wp2
              go_ret
              exact ⟨by rw [HR.out]; rfl, HB.out⟩
            · rw [if_neg (fun h => a6 h.2)] at hR
              have a5t : (x.d == 0) = true := by rw [a5]; rfl
              have a6t : x.s.toList.isEmpty = false := some_bytes (by omega)
              by_cases a7 : x.a ≤ E
              · have HR : Hid (R = 6) := hR.trans (if_pos a7)
                have a7t : decide (x.a ≤ E) = true := decide_eq_true a7
                clear hR a5 a6
                go_enter Try.func63, Try.ntmps63
                go_wp2
                go_ret
                exact ⟨by rw [HR.out]; rfl, HB.out⟩
              · have HR : Hid (R = 0) := hR.trans (if_neg a7)
                have a7t : decide (x.a ≤ E) = false := decide_eq_false a7
                clear hR a5 a6
                go_enter Try.func63, Try.ntmps63
                go_wp2
                go_ret
                exact ⟨by rw [HR.out]; rfl, HB.out⟩
          · rw [if_neg (fun h => a5 h.1)] at hR
            have a5t : (x.d == 0) = false := beq_eq_false_iff_ne.2 a5
            by_cases a7 : x.a ≤ E
            · have HR : Hid (R = 6) := hR.trans (if_pos a7)
              have a7t : decide (x.a ≤ E) = true := decide_eq_true a7
              clear hR a5
              go_enter Try.func63, Try.ntmps63
              go_wp2
              go_ret
              exact ⟨by rw [HR.out]; rfl, HB.out⟩
            · have HR : Hid (R = 0) := hR.trans (if_neg a7)
              have a7t : decide (x.a ≤ E) = false := decide_eq_false a7
              clear hR a5
              go_enter Try.func63, Try.ntmps63
              go_wp2
              go_ret
              exact ⟨by rw [HR.out]; rfl, HB.out⟩
set_option maxHeartbeats 2000000 in
theorem Check_any {A : Option Addr} {n c : Nat} {h : Nat → Es.Ev} (N : Int) (w : World) (hr : EvRow w A n h) (hw : ∀ k, k < n → EvWf (h k)) (_ : n ≤ maxLen) (_ : -9223372036854775808 ≤ N) (_ : N ≤ 9223372036854775807) :
    Calls Try.prog 52 #[.int .i64 N, .slice A n c] w fun e w' => e = .returned (.int .i64 (Es.eErr N (el h n))) ∧ Below w.heap.size w w' := by
  have hll := el_len h n
  unfold Es.eErr
  rw [hll]
  by_cases hN : N < 0 ∨ 200 < N
  · rw [if_pos hN]
    by_cases h0 : N < 0
    · clear hN
      go_enter Try.func52, Try.ntmps52
      go_wp2
      go_ret
      exact ⟨rfl, Below.refl _ _⟩
    · have h2 : 200 < N := by omega
      have h0' : decide (N < 0) = false := decide_eq_false h0
      clear hN
      go_enter Try.func52, Try.ntmps52
      go_wp2
      go_ret
      exact ⟨rfl, Below.refl _ _⟩
  · rw [if_neg hN]
    have h0 : decide (N < 0) = false := decide_eq_false (by omega)
    have h0b : 0 ≤ N := by omega
    have h2 : decide (200 < N) = false := decide_eq_false (by omega)
    have h2b : N ≤ 200 := by omega
    by_cases hn : 20 < n
    · rw [if_pos hn]
      have hn' : (20 : Int) < (n : Int) := by omega
      clear hN
      go_enter Try.func52, Try.ntmps52
      go_wp2
      go_ret
      exact ⟨rfl, Below.refl _ _⟩
    · rw [if_neg hn]
      have hn' : decide ((20 : Int) < (n : Int)) = false := decide_eq_false (by omega)
      have hn20 : n ≤ 20 := by omega
      obtain ⟨E, hE⟩ : ∃ E, E = Es.rowErr N (-1) (el h n) := ⟨_, rfl⟩
      rw [← hE]
      obtain ⟨R, hR⟩ : ∃ R : Int, R = if E = 0 then (if 200 < N + Es.gro (el h n) then 11 else 0) else E := ⟨_, rfl⟩
      rw [← hR]
      have HRR0 := hid hR
      have HRE0 : Hid (Es.rowErr N (pe h 0) ((el h n).drop 0) = E) := hE.symm
      have HG0 : Hid (N + Es.gro (el h 0) = N) := by show N + 0 = N; omega
      have H := hid hr
      have HW := hid hw
      clear hr hw hE hll hN hn hR
      go_enter Try.func52, Try.ntmps52
      go_wp2
      go_loopw [5, 6, 22] (fun u v x wr => ∃ k : Nat, k ≤ n ∧ x = .int .i64 (k : Int) ∧ u = .int .i64 (pe h k) ∧ v = .int .i64 (N + Es.gro (el h k)) ∧ Hid (Es.rowErr N (pe h k) ((el h n).drop k) = E) ∧ Hid (∀ j, j < k → Inb N (h j)) ∧ Hid (Below w.heap.size w wr)) (fun _ _ x _ => n - (intOf x).toNat)
      case atStart => exact ⟨0, by omega, rfl, rfl, by rw [HG0.out], HRE0, fun j hj => absurd hj (Nat.not_lt_zero _), Below.refl _ _⟩
      case round =>
        clear HRE0 HG0
        obtain ⟨k, hk, rfl, rfl, rfl, HRE, HK, HB⟩ := hrel
        have hbd : ∀ j, j < k → -1000000 ≤ ((h j).s.size : Int) - (h j).d ∧ ((h j).s.size : Int) - (h j).d ≤ 1000000 := fun j hj => by
          obtain ⟨q1, q2, q3, q4, q5, q6⟩ := HK.out j hj
          omega
        have hgk := gro_small hbd k (Nat.le_refl _)
        have hk20 : (k : Int) ≤ 20 := by omega
        obtain ⟨t, ht⟩ : ∃ t, t = N + Es.gro (el h k) := ⟨_, rfl⟩
        have htb : -30000000 ≤ t ∧ t ≤ 30000000 := by omega
        rw [← ht]
        have HT := hid ht
        clear hbd hgk ht
        by_cases hkn : k < n
        · obtain ⟨b, o, rfl, hlt, c0, c1, c2⟩ := (H.out.keep HB.out) k hkn
          have hkn' : (k : Int) < (n : Int) := by omega
          obtain ⟨x, hx⟩ : ∃ x, x = h k := ⟨_, rfl⟩
          rw [← hx] at c0 c1 c2
          have hwx : EvWf x := by rw [hx]; exact HW.out k hkn
          have HWX := hid hwx
          have HD : Hid (Es.rowErr N (pe h k) ((el h n).drop k) = if Es.one N (pe h k) x = 0 then Es.rowErr N (pe h (k + 1)) ((el h n).drop (k + 1)) else Es.one N (pe h k) x) := by
            show _ = _
            rw [el_drop hkn, pe_succ, ← hx]; rfl
          have HP1 : Hid (pe h (k + 1) = x.a + x.d) := by show _ = _; rw [pe_succ, ← hx]
          have HT1 : Hid (N + Es.gro (el h (k + 1)) = t + ((x.s.size : Int) - x.d)) := by show _ = _; rw [gro_succ, ← hx, HT.out]; omega
          obtain ⟨hca0, hca1, hca2⟩ := ev_new wr x 59
          have HA := hid (EvAt.new wr x 59 _ rfl)
          have HB2 := hid (HB.out.alloc HB.out.size (.cells #[.int .i64 x.a, .int .i64 x.d, .string x.s] 59))
          obtain ⟨ee, hee⟩ : ∃ ee, ee = pe h k := ⟨_, rfl⟩
          rw [← hee] at HRE HD ⊢
          have HXK : Hid (x = h k) := hx
          clear hx hee HB hwx
          go_wp2_with fail
          with_reducible refine (checkEdit_any N ee x _ HWX.out h0b h2b).mono ?_
          rintro e w1 ⟨rfl, hb1⟩
          have HB3 := hid (bl_then HB2.out hb1)
          obtain ⟨hwb, d0, d1, d2⟩ := HA.out.keep hb1
          clear hb1 hca0 hca1 hca2
          by_cases hone : Es.one N ee x = 0
          · have hIN : Inb N x := by
              obtain ⟨m, rfl⟩ := Int.eq_ofNat_of_zero_le h0b
              obtain ⟨q1, q2, q3, q4, q5, q6⟩ := Es.one_zero.1 hone
              exact ⟨q1, by omega, q3, by omega, q4, q5⟩
            have HIN : Hid (∀ j, j < k + 1 → Inb N (h j)) := fun j hj => by
              by_cases e : j = k
              · rw [e, ← HXK.out]; exact hIN
              · exact HK.out j (by omega)
            have HRE2 : Hid (Es.rowErr N (pe h (k + 1)) ((el h n).drop (k + 1)) = E) := by
              have := HD.out
              rw [if_pos hone] at this
              show _ = _
              rw [← this]; exact HRE.out
            obtain ⟨i1, i2, i3, i4, i5, i6⟩ := hIN
            have hsw : IntKind.i64.wrap (x.a + x.d) = x.a + x.d := IntWalk.i64_in _ (by omega)
            have htw : IntKind.i64.wrap (t + ((x.s.size : Int) - x.d)) = t + ((x.s.size : Int) - x.d) := IntWalk.i64_in _ (by omega)
            have hgb : -1000000 ≤ (x.s.size : Int) - x.d ∧ (x.s.size : Int) - x.d ≤ 1000000 := by omega
            have HGB := hid hgb
            have hon : (Es.one N ee x != 0) = false := by rw [hone]; rfl
            rw [hone]
            clear hone hon hgb HD HRE HK
            go_wp2_with fail
            with_reducible refine (growth_ok x _ HGB.out).mono ?_
            rintro e w2 ⟨rfl, hb2⟩
            have HB4 := hid (bl_then HB3.out hb2)
            clear hb2 HB3 HB2
            go_wp2
            go_roundw
            case rel => exact ⟨k + 1, by omega, by go_num, by rw [HP1.out], by rw [HT1.out], HRE2, HIN, HB4⟩
            case measure => simp [intOf]; omega
          · have honet : (Es.one N ee x != 0) = true := bne_iff_ne.2 hone
            have HE2 : Hid (E = Es.one N ee x) := by
              have := HD.out
              rw [if_neg hone] at this
              show _ = _
              rw [← this]; exact HRE.out.symm
            have HR2 : Hid (R = Es.one N ee x) := by
              show _ = _
              rw [HRR0.out, HE2.out, if_neg hone]
            generalize Es.one N ee x = y at *
            clear hone HD HRE HK
            go_wp2
            go_ret
            exact ⟨by rw [HR2.out]; rfl, HB3.out⟩
        · obtain rfl : k = n := by omega
          have hkd : decide ((k : Int) < (k : Int)) = false := decide_eq_false (by omega)
          have hE0 : E = 0 := by rw [← HRE.out, el_end]; rfl
          have HR1 : Hid (R = if 200 < t then 11 else 0) := by
            show _ = _
            rw [HRR0.out, hE0, if_pos rfl, ← HT.out]
          clear hE0 HRE HRR0 HK
          by_cases hf : 200 < t
          · have hf' : decide (200 < t) = true := decide_eq_true hf
            go_wp2
            go_ret
            exact ⟨by rw [HR1.out, if_pos hf]; rfl, HB.out⟩
          · have hf' : decide (200 < t) = false := decide_eq_false hf
            go_wp2
            go_ret
            exact ⟨by rw [HR1.out, if_neg (by omega)]; rfl, HB.out⟩
end Go.Proofs.Ytgkagigagcamoaa
