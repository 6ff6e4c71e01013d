
/-
The contracts of quillref.Grows, EditsErr, Done, PlaceOf.
-/
import Derived.Test.YtphbloibldljjaaEvRow
import Derived.Deep.RegionHeld3
namespace Go.Proofs.Ytphbloibldljjaa
open Go.RowKit

theorem gro_succ (h : Nat → Es.Ev) (k : Nat) : Es.gro (el h (k + 1)) = Es.gro (el h k) + (((h k).s.size : Int) - (h k).d) := by
  rw [el_succ, Es.gro_app]
  simp only [Es.gro]
  omega
/-- A bound for what edits that are not too great add. -/
theorem gro_small {h : Nat → Es.Ev} {n : Nat} (hw : ∀ k, k < n → -1000000 ≤ ((h k).s.size : Int) - (h k).d ∧ ((h k).s.size : Int) - (h k).d ≤ 1000000) : ∀ k, k ≤ n → -(1000000 * (k : Int)) ≤ Es.gro (el h k) ∧ Es.gro (el h k) ≤ 1000000 * (k : Int) := by
  intro k
  induction k with
  | zero => intro _; exact ⟨by show (_ : Int) ≤ 0; simp, by show (0 : Int) ≤ _; simp⟩
  | succ k ih =>
    intro hk
    have := ih (by omega)
    have h2 := hw k (by omega)
    rw [gro_succ]
    omega
set_option maxHeartbeats 1000000 in
theorem Grows_ok {A : Option Addr} {n c : Nat} {h : Nat → Es.Ev} (w : World) (hr : EvRow w A n h) (hn : n ≤ 1000) (hw : ∀ k, k < n → -1000000 ≤ ((h k).s.size : Int) - (h k).d ∧ ((h k).s.size : Int) - (h k).d ≤ 1000000) :
    Calls Try.prog 26 #[.slice A n c] w fun e w' => e = .returned (.int .i64 (Es.gro (el h n))) ∧ Below w.heap.size w w' := by
  have H := hid hr
  have HW := hid hw
  have HG := hid (gro_small hw)
  clear hr hw
  go_enter Try.func26, Try.ntmps26
  go_wp2
  go_loopw [3, 8] (fun v x wr => ∃ k : Nat, k ≤ n ∧ x = .int .i64 (k : Int) ∧ v = .int .i64 (Es.gro (el h k)) ∧ Hid (Below w.heap.size w wr)) (fun _ x _ => n - (intOf x).toNat)
  case atStart => exact ⟨0, by omega, rfl, rfl, Below.refl _ _⟩
  case round =>
    obtain ⟨k, hk, rfl, rfl, HB⟩ := hrel
    by_cases hkn : k < n
    · obtain ⟨b, o, rfl, hlt, c0, c1, c2⟩ := (H.out.keep HB.out) k hkn
      have hkn' : (k : Int) < (n : Int) := by omega
      obtain ⟨x, hx⟩ : ∃ x, x = h k := ⟨_, rfl⟩
      rw [← hx] at c0 c1 c2
      have hn0 := ev_new wr x 30
      obtain ⟨hca0, hca1, hca2⟩ := hn0
      have HB2 := hid (HB.out.alloc HB.out.size (.cells #[.int .i64 x.a, .int .i64 x.d, .string x.s] 30))
      have hwk := HW.out k hkn
      rw [← hx] at hwk
      obtain ⟨t, ht⟩ : ∃ t, t = Es.gro (el h k) := ⟨_, rfl⟩
      have hgk := HG.out k hk
      rw [← ht] at hgk
      have hgs : Hid (Es.gro (el h (k + 1)) = t + ((x.s.size : Int) - x.d)) := by rw [hx, ht]; exact gro_succ h k
      rw [← ht]
      clear HB hx ht
      go_wp2
      go_roundw
      case rel => exact ⟨k + 1, by omega, by go_num, by rw [hgs.out], HB2⟩
      case measure => simp [intOf]; omega
    · obtain rfl : k = n := by omega
      go_wp2
      go_ret
      exact ⟨rfl, HB.out⟩
/-- Where the edit ahead of the k-th ends. -/
def pe (h : Nat → Es.Ev) (k : Nat) : Int := if k = 0 then -1 else (h (k - 1)).a + (h (k - 1)).d
theorem pe_succ (h : Nat → Es.Ev) (k : Nat) : pe h (k + 1) = (h k).a + (h k).d := by unfold pe; rw [if_neg (by omega), Nat.add_sub_cancel]
/-- An edit that is in its bounds. -/
def Inb (N : Int) (x : Es.Ev) : Prop := 0 ≤ x.a ∧ x.a ≤ N ∧ 0 ≤ x.d ∧ x.d ≤ N ∧ x.a + x.d ≤ N ∧ x.s.size ≤ 40
set_option maxHeartbeats 4000000 in
set_option maxRecDepth 100000 in
theorem EditsErr_any {A : Option Addr} {n c : Nat} {h : Nat → Es.Ev} (N : Int) (w : World) (hr : EvRow w A n h) :
    Calls Try.prog 9 #[.int .i64 N, .slice A n c] w fun e w' => e = .returned (.int .i64 (Es.eErr N (el h n))) ∧ Below w.heap.size w w' := by
  have hll := el_len h n
  unfold Es.eErr
  rw [hll]
  by_cases hN : N < 0 ∨ 200 < N
  · rw [if_pos hN]
    by_cases h0 : N < 0
    · go_enter Try.func9, Try.ntmps9
      go_wp2
      go_ret
      exact ⟨rfl, Below.refl _ _⟩
    · have h2 : 200 < N := by omega
      have h0' : decide (N < 0) = false := decide_eq_false h0
      clear hN
      go_enter Try.func9, Try.ntmps9
      go_wp2
      go_ret
      exact ⟨rfl, Below.refl _ _⟩
  · rw [if_neg hN]
    have h0 : decide (N < 0) = false := decide_eq_false (by omega)
    have h0b : ¬ N < 0 := by omega
    have h2 : decide (200 < N) = false := decide_eq_false (by omega)
    have h2b : N ≤ 200 := by omega
    by_cases hn : 20 < n
    · rw [if_pos hn]
      have hn' : (20 : Int) < (n : Int) := by omega
      clear hN
      go_enter Try.func9, Try.ntmps9
      go_wp2
      go_ret
      exact ⟨rfl, Below.refl _ _⟩
    · rw [if_neg hn]
      have hn' : decide ((20 : Int) < (n : Int)) = false := decide_eq_false (by omega)
      have hn20 : n ≤ 20 := by omega
      obtain ⟨E, hE⟩ : ∃ E, E = Es.rowErr N (-1) (el h n) := ⟨_, rfl⟩
      rw [← hE]
      obtain ⟨R, hR⟩ : ∃ R : Int, R = if E = 0 then (if 200 < N + Es.gro (el h n) then 11 else 0) else E := ⟨_, rfl⟩
      rw [← hR]
      have HRR0 := hid hR
      clear hR
      have HRE0 : Hid (Es.rowErr N (pe h 0) ((el h n).drop 0) = E) := hE.symm
      have H := hid hr
      clear hr hE hll hN hn
      go_enter Try.func9, Try.ntmps9
      go_wp2
      go_loopw [18] (fun x wr => ∃ k : Nat, k ≤ n ∧ x = .int .i64 (k : Int) ∧ Hid (Es.rowErr N (pe h k) ((el h n).drop k) = E) ∧ Hid (∀ j, j < k → Inb N (h j)) ∧ Hid (Below w.heap.size w wr)) (fun x _ => n - (intOf x).toNat)
      case atStart => exact ⟨0, by omega, rfl, HRE0, fun j hj => absurd hj (Nat.not_lt_zero _), Below.refl _ _⟩
      case round =>
        clear HRE0
        obtain ⟨k, hk, rfl, HRE, HK, HB⟩ := hrel
        by_cases hkn : k < n
        · obtain ⟨b, o, rfl, hlt, c0, c1, c2⟩ := (H.out.keep HB.out) k hkn
          have hkn' : (k : Int) < (n : Int) := by omega
          obtain ⟨x, hx⟩ : ∃ x, x = h k := ⟨_, rfl⟩
          rw [← hx] at c0 c1 c2
          obtain ⟨hca0, hca1, hca2⟩ := ev_new wr x 30
          have HB2 := hid (HB.out.alloc HB.out.size (.cells #[.int .i64 x.a, .int .i64 x.d, .string x.s] 30))
          have HD : Hid (Es.rowErr N (pe h k) ((el h n).drop k) = if Es.one N (pe h k) x = 0 then Es.rowErr N (pe h (k + 1)) ((el h n).drop (k + 1)) else Es.one N (pe h k) x) := by
            show _ = _
            rw [el_drop hkn, pe_succ, ← hx]; rfl
          have hlb : b ≠ wr.heap.size := Nat.ne_of_lt hlt
          by_cases a1 : x.a < 0
          · have a1t : decide (x.a < 0) = true := decide_eq_true a1
            have HE2 : Hid (E = 1) := by
              show _ = _
              rw [← HRE.out, HD.out, show Es.one N (pe h k) x = 1 from if_pos (.inl a1), if_neg (by decide)]
            clear HRE HD HB HK hx
            go_wp2
            go_ret
            exact ⟨by rw [HRR0.out, HE2.out]; rfl, HB2.out⟩
          · have a1' : decide (x.a < 0) = false := decide_eq_false a1
            by_cases a2 : N < x.a
            · have a2t : decide (N < x.a) = true := decide_eq_true a2
              have HE2 : Hid (E = 1) := by
                show _ = _
                rw [← HRE.out, HD.out, show Es.one N (pe h k) x = 1 from if_pos (.inr (.inl a2)), if_neg (by decide)]
              clear HRE HD HB HK hx
              go_wp2
              go_ret
              exact ⟨by rw [HRR0.out, HE2.out]; rfl, HB2.out⟩
            · have a2' : decide (N < x.a) = false := decide_eq_false a2
              by_cases a3 : x.d < 0
              · have a3t : decide (x.d < 0) = true := decide_eq_true a3
                have HE2 : Hid (E = 1) := by
                  show _ = _
                  rw [← HRE.out, HD.out, show Es.one N (pe h k) x = 1 from if_pos (.inr (.inr (.inl a3))), if_neg (by decide)]
                clear HRE HD HB HK hx
                go_wp2
                go_ret
                exact ⟨by rw [HRR0.out, HE2.out]; rfl, HB2.out⟩
              · have a3' : decide (x.d < 0) = false := decide_eq_false a3
                by_cases a4 : N < x.d
                · have a4t : decide (N < x.d) = true := decide_eq_true a4
                  have HE2 : Hid (E = 1) := by
                    show _ = _
                    rw [← HRE.out, HD.out, show Es.one N (pe h k) x = 1 from if_pos (.inr (.inr (.inr (.inl a4)))), if_neg (by decide)]
                  clear HRE HD HB HK hx
                  go_wp2
                  go_ret
                  exact ⟨by rw [HRR0.out, HE2.out]; rfl, HB2.out⟩
                · have a4' : decide (N < x.d) = false := decide_eq_false a4
                  by_cases a5 : N < x.a + x.d
                  · have a5t : decide (N < x.a + x.d) = true := decide_eq_true a5
                    have HE2 : Hid (E = 1) := by
                      show _ = _
                      rw [← HRE.out, HD.out, show Es.one N (pe h k) x = 1 from if_pos (.inr (.inr (.inr (.inr a5)))), if_neg (by decide)]
                    clear HRE HD HB HK hx
                    go_wp2
                    go_ret
                    exact ⟨by rw [HRR0.out, HE2.out]; rfl, HB2.out⟩
                  · have a5' : decide (N < x.a + x.d) = false := decide_eq_false a5
                    have hone : Es.one N (pe h k) x = if 40 < x.s.size then 2 else if x.d = 0 ∧ x.s.size = 0 then 5 else if x.a ≤ pe h k then 6 else 0 := if_neg (by omega)
                    by_cases a6 : 40 < x.s.size
                    · have a6' : (40 : Int) < (x.s.size : Int) := by omega
                      have HE2 : Hid (E = 2) := by
                        show _ = _
                        rw [← HRE.out, HD.out, hone, if_pos a6, if_neg (by decide)]
                      clear HRE HD HB HK hone hx
                      go_wp2
                      go_ret
                      exact ⟨by rw [HRR0.out, HE2.out]; rfl, HB2.out⟩
                    · have a6' : decide ((40 : Int) < (x.s.size : Int)) = false := decide_eq_false (by omega)
                      have hsz : x.s.size ≤ 40 := by omega
                      rw [if_neg a6] at hone
                      by_cases a7 : x.d = 0 ∧ x.s.size = 0
                      · have a7' : ((x.d + (x.s.size : Int)) == 0) = true := by rw [a7.1, a7.2]; rfl
                        have HE2 : Hid (E = 5) := by
                          show _ = _
                          rw [← HRE.out, HD.out, hone, if_pos a7, if_neg (by decide)]
                        clear HRE HD HB HK hone a7 hx
                        go_wp2
                        go_ret
                        exact ⟨by rw [HRR0.out, HE2.out]; rfl, HB2.out⟩
                      · have a7' : ((x.d + (x.s.size : Int)) == 0) = false := beq_eq_false_iff_ne.2 (by omega)
                        rw [if_neg a7] at hone
                        have HIN : Hid (∀ j, j < k + 1 → Inb N (h j)) := fun j hj => by
                          by_cases e : j = k
                          · rw [e, ← hx]; exact ⟨by omega, by omega, by omega, by omega, by omega, hsz⟩
                          · exact HK.out j (by omega)
                        by_cases hk0 : k = 0
                        · have hk0' : decide ((0 : Int) < (k : Int)) = false := decide_eq_false (by omega)
                          have hk0b : ¬ 0 < k := by omega
                          have HN : Hid (Es.rowErr N (pe h (k + 1)) ((el h n).drop (k + 1)) = E) := by
                            show _ = _
                            rw [← HRE.out, HD.out, if_pos (show Es.one N (pe h k) x = 0 by rw [hone, if_neg (by rw [show pe h k = -1 from by unfold pe; rw [if_pos hk0]]; omega)])]
                          clear HRE HD HB HK hone a7 hx hk0
                          go_wp2
                          go_quiet (fail)
                          go_wp2
                          go_roundw
                          case rel => exact ⟨k + 1, by omega, by go_num, HN, HIN, bl_drewN HB2.out _⟩
                          case measure => simp [intOf]; omega
                        · obtain ⟨j, hj⟩ : ∃ j, k = j + 1 := ⟨k - 1, by omega⟩
                          obtain ⟨b', o', hA, hlt2, e0, e1, _⟩ := (H.out.keep HB2.out) j (by omega)
                          injection hA with hA
                          injection hA with hA1 hA2
                          subst hA1 hA2
                          obtain ⟨y, hy⟩ : ∃ y, y = h j := ⟨_, rfl⟩
                          rw [← hy] at e0 e1
                          have hyb := HK.out j (by omega)
                          rw [← hy] at hyb
                          obtain ⟨y1, y2, y3, y4, y5, _⟩ := hyb
                          have hpe : pe h k = y.a + y.d := by rw [hj, pe_succ, hy]
                          have hjn : j < n := by omega
                          have hjn' : (j : Int) < (n : Int) := by omega
                          have hj0 : (0 : Int) ≤ (j : Int) := by omega
                          have ej : (k : Int) - 1 = (j : Int) := by omega
                          have ejw : IntKind.i64.wrap (j : Int) = (j : Int) := IntWalk.i64_in _ (by omega)
                          have hk0' : decide ((0 : Int) < (k : Int)) = true := decide_eq_true (by omega)
                          have hk0b : 0 < k := by omega
                          have hk0c : (0 : Int) < (k : Int) := by omega
                          have hyw : IntKind.i64.wrap (y.a + y.d) = y.a + y.d := IntWalk.i64_in _ (by omega)
                          by_cases a8 : x.a ≤ y.a + y.d
                          · have a8' : decide (x.a ≤ y.a + y.d) = true := decide_eq_true a8
                            have HE2 : Hid (E = 6) := by
                              show _ = _
                              rw [← HRE.out, HD.out, show Es.one N (pe h k) x = 6 by rw [hone, if_pos (by rw [hpe]; exact a8)], if_neg (by decide)]
                            clear HRE HD HB HK hone a7 hx hy hpe hj hk0
                            go_wp2
                            go_quiet (fail)
                            go_wp2
                            go_ret
                            exact ⟨by rw [HRR0.out, HE2.out]; rfl, bl_drewN HB2.out _⟩
                          · have a8' : decide (x.a ≤ y.a + y.d) = false := decide_eq_false a8
                            have HN : Hid (Es.rowErr N (pe h (k + 1)) ((el h n).drop (k + 1)) = E) := by
                              show _ = _
                              rw [← HRE.out, HD.out, if_pos (show Es.one N (pe h k) x = 0 by rw [hone, if_neg (by rw [hpe]; exact a8)])]
                            clear HRE HD HB HK hone a7 hx hy hpe hj hk0
                            go_wp2
                            go_quiet (fail)
                            go_wp2
                            go_roundw
                            case rel => exact ⟨k + 1, by omega, by go_num, HN, HIN, bl_drewN HB2.out _⟩
                            case measure => simp [intOf]; omega
        · obtain rfl : k = n := by omega
          have hkd : decide ((k : Int) < (k : Int)) = false := decide_eq_false (by omega)
          have hE0 : E = 0 := by rw [← HRE.out, el_end]; rfl
          have hbd : ∀ j, j < k → -1000000 ≤ ((h j).s.size : Int) - (h j).d ∧ ((h j).s.size : Int) - (h j).d ≤ 1000000 := fun j hj => by
            obtain ⟨q1, q2, q3, q4, q5, q6⟩ := HK.out j hj
            omega
          obtain ⟨q, hq⟩ : ∃ q, q = Es.gro (el h k) := ⟨_, rfl⟩
          have hqb := gro_small hbd k (Nat.le_refl _)
          rw [← hq] at hqb
          have HQ := hid hq
          have HRR := hid (H.out.keep HB.out)
          have HBD := hid hbd
          have HR1 : Hid (R = if 200 < N + q then 11 else 0) := by
            show _ = _
            rw [HRR0.out, hE0, if_pos rfl, ← hq]
          clear hbd hq HRR0
          have hw1 : IntKind.i64.wrap (N + q) = N + q := IntWalk.i64_in _ (by omega)
          go_wp2_with fail
          with_reducible refine (Grows_ok _ HRR.out (by omega) HBD.out).mono ?_
          rintro e w8 ⟨he, hb8⟩
          rw [← HQ.out] at he
          subst he
          have HB8 := hid (bl_then HB.out hb8)
          clear hb8
          by_cases hf : 200 < N + q
          · have hf' : decide (200 < N + q) = true := decide_eq_true hf
            go_wp2
            go_ret
            exact ⟨by rw [HR1.out, if_pos hf]; rfl, HB8.out⟩
          · have hf' : decide (200 < N + q) = false := decide_eq_false hf
            go_wp2
            go_ret
            exact ⟨by rw [HR1.out, if_neg (by omega)]; rfl, HB8.out⟩
end Go.Proofs.Ytphbloibldljjaa
