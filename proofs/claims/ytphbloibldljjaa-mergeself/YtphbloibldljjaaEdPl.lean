
/-
The contract of edit.Place.
-/
import Derived.Test.YtphbloibldljjaaEdAp
namespace Go.Proofs.Ytphbloibldljjaa
open Go.RowKit

/-- What Place answers. -/
def PlaceOut (N : Int) (L : List Es.Ev) (t : Int) (w : World) (e : Ending) (w' : World) : Prop :=
  ∃ (v : Int) (b : Bool) (x : Int), e = .returned (.tuple #[.int .i64 v, .bool b, .int .i64 x]) ∧ PlIs N L t v b x ∧ Below w.heap.size w w'
set_option maxHeartbeats 2000000 in
theorem place_walk {A : Option Addr} {n c : Nat} {h : Nat → Es.Ev} (N t : Int) (w : World) (hr : EvRow w A n h) (hw : ∀ k, k < n → EvWf (h k)) (hn : n ≤ maxLen) (hN1 : -9223372036854775808 ≤ N) (hN2 : N ≤ 9223372036854775807) (_ : -9223372036854775808 ≤ t) (_ : t ≤ 9223372036854775807) :
    Calls Try.prog 25 #[.int .i64 N, .slice A n c, .int .i64 t] w (PlaceOut N (el h n) t w) := by
  have hC := Check_any (c := c) N w hr hw hn hN1 hN2
  have H := hid hr
  clear hr hw hn hN1 hN2
  by_cases hE : Es.eErr N (el h n) = 0
  · rw [hE] at hC
    have HE := hid hE
    obtain ⟨s, hsN, G, q, hS⟩ := Es.scr_size hE
    obtain ⟨hn20, hs200, hbd⟩ := scr_small hS
    have HS := hid hS
    have HBD := hid hbd
    have hN200 : 0 ≤ N ∧ N ≤ 200 := by omega
    clear hS hbd hE hsN
    by_cases ht0 : t < 0
    · have ht0' : decide (t < 0) = true := decide_eq_true ht0
      go_enter Try.func25, Try.ntmps25
      go_wp2_with fail
      with_reducible refine hC.mono ?_
      rintro e w1 ⟨rfl, hb1⟩
      clear hC
      go_wp2
      go_ret3
      exact ⟨0, false, 1, rfl, .inr (.inl ⟨HE.out, .inl ht0, rfl, rfl, rfl⟩), hb1⟩
    · have ht0' : decide (t < 0) = false := decide_eq_false ht0
      by_cases htN : N < t
      · have htN' : decide (N < t) = true := decide_eq_true htN
        go_enter Try.func25, Try.ntmps25
        go_wp2_with fail
        with_reducible refine hC.mono ?_
        rintro e w1 ⟨rfl, hb1⟩
        clear hC
        go_wp2
        go_ret3
        exact ⟨0, false, 1, rfl, .inr (.inl ⟨HE.out, .inr htN, rfl, rfl, rfl⟩), hb1⟩
      · have htN' : decide (N < t) = false := decide_eq_false htN
        have htb : 0 ≤ t ∧ t ≤ 200 := by omega
        obtain ⟨V, hV⟩ : ∃ V, V = Es.plc t 0 (el h n) := ⟨_, rfl⟩
        have HPI : Hid (∀ v b, V = (v, b) → PlIs N (el h n) t v b 0) := fun v b e => .inr (.inr ⟨HE.out, by omega, by omega, rfl, by rw [← hV, e], by rw [← hV, e]⟩)
        have HV0 : Hid (Es.plc t (Es.gro (el h 0)) ((el h n).drop 0) = V) := hV.symm
        clear hV HE
        go_enter Try.func25, Try.ntmps25
        go_wp2_with fail
        with_reducible refine hC.mono ?_
        rintro e w1 ⟨rfl, hb1⟩
        have HR1 := hid (H.out.keep hb1)
        have HBW := hid hb1
        clear hC hb1 H
        go_wp2
        go_loopw [10, 28] (fun u x wr => ∃ k : Nat, k ≤ n ∧ x = .int .i64 (k : Int) ∧ u = .int .i64 (Es.gro (el h k)) ∧ Hid (Es.plc t (Es.gro (el h k)) ((el h n).drop k) = V) ∧ Hid (Below w1.heap.size w1 wr)) (fun _ x _ => n - (intOf x).toNat)
        case atStart => exact ⟨0, by omega, rfl, rfl, HV0, Below.refl _ _⟩
        case round =>
          clear HV0
          obtain ⟨k, hk, rfl, rfl, HV, HB⟩ := hrel
          have hle1 : w1.heap.size ≤ wr.heap.size := HB.out.size
          obtain ⟨m, hm⟩ : ∃ m, m = Es.gro (el h k) := ⟨_, rfl⟩
          have hmb : -30000000 ≤ m ∧ m ≤ 30000000 := by
            have := gro_small HBD.out k hk
            omega
          have hv := HV.out
          rw [← hm] at hv ⊢
          by_cases hkn : k < n
          · obtain ⟨b, o, rfl, hlt, c0, c1, c2⟩ := (HR1.out.keep HB.out) k hkn
            have hkn' : (k : Int) < (n : Int) := by omega
            obtain ⟨x, hx⟩ : ∃ x, x = h k := ⟨_, rfl⟩
            obtain ⟨a, d, e1, e2, e3, e4⟩ := scr_nat HS.out hkn
            rw [el_drop hkn] at hv
            have hgk1 := gro_succ h k
            rw [← hm] at hgk1
            rw [← hx] at c0 c1 c2 e1 e2 e4 hv hgk1
            obtain ⟨y, hy⟩ : ∃ y, y = x.s := ⟨_, rfl⟩
            simp only [Es.plc] at hv
            rw [e1, e2, ← hy] at hv
            rw [e1] at c0
            rw [e2] at c1
            rw [← hy] at c2 e4
            rw [e2, ← hy] at hgk1
            have HX := hid (EvBlk.new wr ⟨(a : Int), (d : Int), y⟩ _ rfl)
            obtain ⟨hca0, hca1, hca2⟩ := HX.out.cells
            have HB2 := hid (HB.out.alloc hle1 (.cells #[.int .i64 (a : Int), .int .i64 (d : Int), .string y] 30))
            try simp only at hca0 hca1 hca2
            have hadw : IntKind.i64.wrap ((a : Int) + (d : Int)) = (a : Int) + (d : Int) := IntWalk.i64_in _ (by omega)
            have hamw : IntKind.i64.wrap ((a : Int) + m) = (a : Int) + m := IntWalk.i64_in _ (by omega)
            have htmw : IntKind.i64.wrap (t + m) = t + m := IntWalk.i64_in _ (by omega)
            have HG1 : Hid (Es.gro (el h (k + 1)) = m + ((y.size : Int) - (d : Int))) := hgk1
            have hgb : -1000000 ≤ (y.size : Int) - (d : Int) ∧ (y.size : Int) - (d : Int) ≤ 1000000 := by omega
            have HGB := hid hgb
            have hgw : IntKind.i64.wrap (m + ((y.size : Int) - (d : Int))) = m + ((y.size : Int) - (d : Int)) := IntWalk.i64_in _ (by omega)
            clear HV hm hx e1 e2 e3 e4 hy hgk1 hgb
            by_cases h1 : t < (a : Int)
            · have h1' : decide (t < (a : Int)) = true := decide_eq_true h1
              rw [if_pos h1] at hv
              have HVV := hid (HPI.out _ _ hv.symm)
              clear hv
              go_wp2
              go_ret3
              exact ⟨_, _, 0, rfl, HVV.out, bl_then HBW.out HB2.out⟩
            · have h1' : decide (t < (a : Int)) = false := decide_eq_false h1
              rw [if_neg h1] at hv
              by_cases h2 : t < (a : Int) + (d : Int)
              · have h2' : decide (t < (a : Int) + (d : Int)) = true := decide_eq_true h2
                rw [if_pos h2] at hv
                have HVV := hid (HPI.out _ _ hv.symm)
                clear hv
                go_wp2
                go_ret3
                exact ⟨_, _, 0, rfl, HVV.out, bl_then HBW.out HB2.out⟩
              · have h2' : decide (t < (a : Int) + (d : Int)) = false := decide_eq_false h2
                rw [if_neg h2] at hv
                have HV2 : Hid (Es.plc t (Es.gro (el h (k + 1))) ((el h n).drop (k + 1)) = V) := by
                  show _ = _
                  rw [HG1.out]; exact hv
                clear hv
                go_wp2_with fail
                with_reducible refine (growth_ok ⟨(a : Int), (d : Int), y⟩ _ HGB.out).mono ?_
                rintro e w8 ⟨rfl, hb8⟩
                have HB8 := hid (HB2.out.trans (hb8.mono HB2.out.size))
                clear hb8 HB2 hca0 hca1 hca2
                go_wp2
                go_roundw
                case rel => exact ⟨k + 1, by omega, by go_num, by rw [HG1.out], HV2, HB8⟩
                case measure => simp [intOf]; omega
          · obtain rfl : k = n := by omega
            have hkd : decide ((k : Int) < (k : Int)) = false := decide_eq_false (by omega)
            rw [el_end] at hv
            have HVV := hid (HPI.out _ _ hv.symm)
            have htmw : IntKind.i64.wrap (t + m) = t + m := IntWalk.i64_in _ (by omega)
            clear hv HV hm
            go_wp2
            go_ret3
            exact ⟨_, _, 0, rfl, HVV.out, bl_then HBW.out HB.out⟩
  · have hne : (Es.eErr N (el h n) != 0) = true := bne_iff_ne.2 hE
    obtain ⟨x, hx⟩ : ∃ x, x = Es.eErr N (el h n) := ⟨_, rfl⟩
    rw [← hx] at hC hne hE
    have HX := hid hx
    have HE := hid hE
    clear hx hE
    go_enter Try.func25, Try.ntmps25
    go_wp2_with fail
    with_reducible refine hC.mono ?_
    rintro e w1 ⟨rfl, hb1⟩
    clear hC
    go_wp2
    go_ret3
    exact ⟨0, false, x, rfl, .inl ⟨HE.out, HX.out, rfl, rfl⟩, hb1⟩
theorem Place_any {A : Option Addr} {n c : Nat} {h : Nat → Es.Ev} (N t : Int) (w : World) (hr : EvRow w A n h) (hw : ∀ k, k < n → EvWf (h k)) (hn : n ≤ maxLen) (hN1 : -9223372036854775808 ≤ N) (hN2 : N ≤ 9223372036854775807) (ht1 : -9223372036854775808 ≤ t) (ht2 : t ≤ 9223372036854775807) :
    Calls Try.prog 25 #[.int .i64 N, .slice A n c, .int .i64 t] w fun e w' => ∃ (v : Int) (b : Bool) (x : Int), e = .returned (.tuple #[.int .i64 v, .bool b, .int .i64 x]) ∧ PlIs N (el h n) t v b x ∧ Below w.heap.size w w' := place_walk N t w hr hw hn hN1 hN2 ht1 ht2
end Go.Proofs.Ytphbloibldljjaa
