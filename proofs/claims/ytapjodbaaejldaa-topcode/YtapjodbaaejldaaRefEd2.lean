
/-
The contracts of quillref.Done and PlaceOf at a good script.
-/
import Derived.Test.YtapjodbaaejldaaRefEd
import Derived.Test.YtapjodbaaejldaaApp
import Derived.Laws.Concat
namespace Go.Proofs.Ytapjodbaaejldaa
open Go.RowKit

theorem el_getD {h : Nat → Es.Ev} {n k : Nat} (hk : k < n) : (el h n).getD k Es.none_ = h k := el_at hk
/-- A good script's edits as natural numbers. -/
theorem scr_nat {s : ByteArray} {h : Nat → Es.Ev} {n : Nat} {G : List Es.Sg} {q : List UInt8} (hs : Es.Scr (lst s) (el h n) G q) {k : Nat} (hk : k < n) : ∃ a d : Nat, (h k).a = (a : Int) ∧ (h k).d = (d : Int) ∧ a + d ≤ s.size ∧ (h k).s.size ≤ 40 := by
  have := Es.ch_at k hs.ch (by rw [el_len]; exact hk)
  rw [el_at hk, lst_len] at this
  obtain ⟨h1, _, h3, h4, h5⟩ := this
  obtain ⟨a, ha⟩ := Int.eq_ofNat_of_zero_le h1
  obtain ⟨d, hd⟩ := Int.eq_ofNat_of_zero_le h3
  exact ⟨a, d, ha, hd, by omega, h5⟩
theorem scr_small {s : ByteArray} {h : Nat → Es.Ev} {n : Nat} {G : List Es.Sg} {q : List UInt8} (hs : Es.Scr (lst s) (el h n) G q) : n ≤ 20 ∧ s.size ≤ 200 ∧ ∀ k, k < n → -1000000 ≤ ((h k).s.size : Int) - (h k).d ∧ ((h k).s.size : Int) - (h k).d ≤ 1000000 := by
  have h1 := hs.len
  rw [el_len] at h1
  have h2 := hs.few
  have h3 := hs.from_
  rw [lst_len] at h3
  refine ⟨by omega, h3, fun k hk => ?_⟩
  obtain ⟨a, d, e1, e2, e3, e4⟩ := scr_nat hs hk
  omega
set_option maxHeartbeats 2000000 in
theorem Done_ok {A : Option Addr} {n c : Nat} {h : Nat → Es.Ev} (s : ByteArray) {G : List Es.Sg} {q : List UInt8} (w : World) (hr : EvRow w A n h) (hs : Es.Scr (lst s) (el h n) G q) :
    Calls Try.prog 20 #[.string s, .slice A n c] w fun e w' => e = .returned (.string (mkS (Es.dst G q))) ∧ Below w.heap.size w w' := by
  obtain ⟨hn20, hs200, _⟩ := scr_small hs
  have hlen := hs.len
  rw [el_len] at hlen
  have H := hid hr
  have HS := hid hs
  have HLEN := hid hlen
  have HT0 : Hid (mkS (Es.doneL (lst s) ((el h n).drop n)) = s) := by
    show _ = _
    rw [el_end]; exact mk_lst s
  clear hr hs hlen
  go_enter Try.func20, Try.ntmps20
  go_wp2
  go_loopw [0, 5] (fun v x wr => ∃ j : Nat, ∃ z : Int, z + 1 = (j : Int) ∧ j ≤ n ∧ x = .int .i64 z ∧ v = .string (mkS (Es.doneL (lst s) ((el h n).drop j))) ∧ Hid (Below w.heap.size w wr)) (fun _ x _ => (intOf x + 1).toNat)
  case atStart => exact ⟨n, _, by omega, by omega, rfl, by rw [HT0.out], Below.refl _ _⟩
  case round =>
    clear HT0
    obtain ⟨j1, z, hz, hj1, rfl, rfl, HB⟩ := hrel
    by_cases hz0 : 0 ≤ z
    · obtain ⟨j, rfl⟩ : ∃ j : Nat, z = (j : Int) := ⟨z.toNat, by omega⟩
      obtain rfl : j1 = j + 1 := by omega
      have hjn : j < n := by omega
      have hjn' : (j : Int) < (n : Int) := by omega
      clear hz hz0
      obtain ⟨b, o, rfl, hlt, c0, c1, c2⟩ := (H.out.keep HB.out) j hjn
      obtain ⟨hda, hdb⟩ := HS.out.done_at (j := j + 1) (by have := HLEN.out; omega)
      have hdb := hdb (by omega)
      rw [Nat.add_sub_cancel, el_at hjn] at hdb
      obtain ⟨a, d, e1, e2, e3, e4⟩ := scr_nat HS.out hjn
      obtain ⟨x, hx⟩ : ∃ x, x = h j := ⟨_, rfl⟩
      rw [← hx] at c0 c1 c2 hdb e1 e2 e4
      obtain ⟨T, hT⟩ : ∃ T, T = mkS (Es.doneL (lst s) ((el h n).drop (j + 1))) := ⟨_, rfl⟩
      have hTz : T.size = (Es.doneL (lst s) ((el h n).drop (j + 1))).length := by rw [hT, mk_size]
      rw [← hTz, e1, e2] at hdb
      rw [← hTz] at hda
      have hstep : Hid (T.extract 0 a ++ x.s ++ T.extract (a + d) T.size = mkS (Es.doneL (lst s) ((el h n).drop j))) := by
        show _ = _
        rw [el_drop hjn, ← hx]
        simp only [Es.doneL]
        rw [e1, e2, show ((a : Int) + (d : Int)).toNat = a + d by omega, Int.toNat_natCast]
        have hl : lst T = Es.doneL (lst s) ((el h n).drop (j + 1)) := by rw [hT, lst_mk]
        rw [← hl]
        apply lst_inj_
        rw [lst_mk, lst_cat, lst_cat, lst_drop, lst_mid, List.drop_zero, Nat.sub_zero]
      rw [← hT]
      obtain ⟨ad, had⟩ : ∃ ad, ad = a + d := ⟨_, rfl⟩
      have hadE : (a : Int) + (d : Int) = (ad : Int) := by omega
      have hadw : IntKind.i64.wrap (ad : Int) = (ad : Int) := IntWalk.i64_in _ (by omega)
      have ha0 : (0 : Int) ≤ (a : Int) := by omega
      have had0 : (0 : Int) ≤ (ad : Int) := by omega
      have haT : (a : Int) ≤ (T.size : Int) := by omega
      have hadT : (ad : Int) ≤ (T.size : Int) := by omega
      rw [← had] at hstep
      have hadd1 := fun W : World => run_string_add_sum (P := Try.prog) W (T.extract 0 a) x.s (by rw [size_ext]; omega)
      have hadd2 := fun W : World => run_string_add_sum (P := Try.prog) W (T.extract 0 a ++ x.s) (T.extract ad T.size) (by rw [size_app, size_ext, size_ext]; omega)
      obtain ⟨hca0, hca1, hca2⟩ := ev_new wr x 36
      rw [e1] at c0
      rw [e2] at c1
      have HB2 := hid (HB.out.alloc HB.out.size (.cells #[.int .i64 x.a, .int .i64 x.d, .string x.s] 36))
      simp only [e1, e2] at hca0 hca1 hca2 HB2
      clear HB hx hT hTz e1 e2 had
      go_wp2
      go_quiet (fail)
      clear hadd1 hadd2
      go_wp2
      go_roundw
      case rel => exact ⟨j, _, by omega, by omega, rfl, by rw [hstep.out], bl_drewN HB2.out _⟩
      case measure => simp [intOf]
    · obtain rfl : z = -1 := by omega
      obtain rfl : 0 = j1 := by omega
      have HE : Hid (mkS (Es.doneL (lst s) ((el h n).drop 0)) = mkS (Es.dst G q)) := by
        show _ = _
        rw [List.drop_zero, HS.out.done]
      rw [HE.out]
      go_wp2
      go_ret
      exact ⟨rfl, HB.out⟩
/-- What PlaceOf answers. -/
def PlcPost (w : World) (v : Int × Bool) (e : Ending) (w' : World) : Prop := e = .returned (.tuple #[.int .i64 v.1, .bool v.2]) ∧ Below w.heap.size w w'
set_option maxHeartbeats 4000000 in
theorem PlaceOf_ok {A : Option Addr} {n c : Nat} {h : Nat → Es.Ev} (s : ByteArray) {G : List Es.Sg} {q : List UInt8} (t : Nat) (w : World) (hr : EvRow w A n h) (hnc : n ≤ c) (hs : Es.Scr (lst s) (el h n) G q) (ht : t ≤ 1000) :
    Calls Try.prog 19 #[.slice A n c, .int .i64 (t : Int)] w (PlcPost w (Es.plc (t : Int) 0 (el h n))) := by
  obtain ⟨hn20, hs200, hbd⟩ := scr_small hs
  have H := hid hr
  have HS := hid hs
  have HBD := hid hbd
  obtain ⟨V, hV⟩ : ∃ V, V = Es.plc (t : Int) 0 (el h n) := ⟨_, rfl⟩
  have HV := hid hV
  rw [← hV]
  clear hr hs hbd hV
  go_enter Try.func19, Try.ntmps19
  go_wp2
  go_loopw [11] (fun x wr => ∃ k : Nat, k ≤ n ∧ x = .int .i64 (k : Int) ∧ Hid (∀ j, j < k → ¬ ((h j).a ≤ (t : Int) ∧ (t : Int) < (h j).a + (h j).d)) ∧ Hid (Below w.heap.size w wr)) (fun x _ => n - (intOf x).toNat)
  case atStart => exact ⟨0, by omega, rfl, fun j hj => absurd hj (Nat.not_lt_zero _), Below.refl _ _⟩
  case round =>
    obtain ⟨k, hk, rfl, HK, HB⟩ := hrel
    by_cases hkn : k < n
    · obtain ⟨b, o, rfl, hlt, c0, c1, c2⟩ := (H.out.keep HB.out) k hkn
      have hkn' : (k : Int) < (n : Int) := by omega
      obtain ⟨a, d, e1, e2, e3, e4⟩ := scr_nat HS.out hkn
      obtain ⟨x, hx⟩ : ∃ x, x = h k := ⟨_, rfl⟩
      rw [← hx] at c0 c1 c2 e1 e2 e4
      obtain ⟨hca0, hca1, hca2⟩ := ev_new wr x 36
      have HB2 := hid (HB.out.alloc HB.out.size (.cells #[.int .i64 x.a, .int .i64 x.d, .string x.s] 36))
      rw [e1] at c0
      rw [e2] at c1
      simp only [e1, e2] at hca0 hca1 hca2 HB2
      have hadw : IntKind.i64.wrap ((a : Int) + (d : Int)) = (a : Int) + (d : Int) := IntWalk.i64_in _ (by omega)
      by_cases h1 : (a : Int) ≤ (t : Int)
      · have h1' : decide ((a : Int) ≤ (t : Int)) = true := decide_eq_true h1
        by_cases h2 : (t : Int) < (a : Int) + (d : Int)
        · have h2' : decide ((t : Int) < (a : Int) + (d : Int)) = true := decide_eq_true h2
          obtain ⟨z, hz⟩ : ∃ z, z = Es.gro (el h k) := ⟨_, rfl⟩
          have hzb := gro_small HBD.out k (by omega)
          rw [← hz] at hzb
          have HVV : Hid (V = ((a : Int) + z, false)) := by
            show _ = _
            have hi : k < (el h n).length := by rw [el_len]; exact hkn
            have := Es.plc_hit HS.out.ch hi (t := (t : Int)) (by rw [el_at hkn, ← hx, e1]; exact h1) (by rw [el_at hkn, ← hx, e1, e2]; exact h2)
            rw [HV.out, this, el_at hkn, ← hx, e1, el_take hk, hz]
          have HZ := hid hz
          have hzw : IntKind.i64.wrap ((a : Int) + z) = (a : Int) + z := IntWalk.i64_in _ (by omega)
          have HGR : Hid (EvRow (wr.alloc (.cells #[.int .i64 (a : Int), .int .i64 (d : Int), .string x.s] 36)).drew (some ⟨b, o, none⟩) k h) := (H.out.keep HB2.out).less hk
          have hkc : (k : Int) ≤ (c : Int) := by omega
          have hk0 : (0 : Int) ≤ (k : Int) := by omega
          have hk1000 : k ≤ 1000 := by omega
          have HBK : Hid (∀ j, j < k → -1000000 ≤ ((h j).s.size : Int) - (h j).d ∧ ((h j).s.size : Int) - (h j).d ≤ 1000000) := fun j hj => HBD.out j (by omega)
          have hgz : wr.heap.size < (wr.alloc (.cells #[.int .i64 (a : Int), .int .i64 (d : Int), .string x.s] 36)).drew.heap.size := by simp
          clear HK HV hx e1 e2 hz
          go_wp2
          go_region_held3 (fun W => W.cell? ⟨wr.heap.size, 0, none⟩ = some (.int .i64 (a : Int))) (first | exact hca0 | exact K8) (first | (go_at_call 23; (with_reducible refine (Grows_ok _ HGR.out hk1000 HBK.out).mono ?_); rintro e w8 ⟨he, hb8⟩; rw [← HZ.out] at he; subst he; have K8 := (hb8.cell (p := ⟨wr.heap.size, 0, none⟩) hgz).trans hca0))
          all_goals (
            have HB9 := hid (bl_then HB2.out.drew hb8)
            clear hb8
            go_wp2
            go_ret2
            exact ⟨by rw [HVV.out]; rfl, HB9.out⟩)
        · have h2' : decide ((t : Int) < (a : Int) + (d : Int)) = false := decide_eq_false h2
          have HK2 : Hid (∀ j, j < k + 1 → ¬ ((h j).a ≤ (t : Int) ∧ (t : Int) < (h j).a + (h j).d)) := fun j hj => by
            by_cases e : j = k
            · rw [e, ← hx, e1, e2]; exact fun q => h2 q.2
            · exact HK.out j (by omega)
          clear HK hx e1 e2
          go_wp2
          go_roundw
          case rel => exact ⟨k + 1, by omega, by go_num, HK2, HB2⟩
          case measure => simp [intOf]; omega
      · have h1' : decide ((a : Int) ≤ (t : Int)) = false := decide_eq_false h1
        have HK2 : Hid (∀ j, j < k + 1 → ¬ ((h j).a ≤ (t : Int) ∧ (t : Int) < (h j).a + (h j).d)) := fun j hj => by
          by_cases e : j = k
          · rw [e, ← hx, e1, e2]; exact fun q => h1 q.1
          · exact HK.out j (by omega)
        clear HK hx e1 e2
        go_wp2
        go_roundw
        case rel => exact ⟨k + 1, by omega, by go_num, HK2, HB2⟩
        case measure => simp [intOf]; omega
    · obtain rfl : k = n := by omega
      have hkd : decide ((k : Int) < (k : Int)) = false := decide_eq_false (by omega)
      have HB2 := HB
      have HKA := HK
      clear HB HK
      generalize wr = w7 at *
      go_wp2
      go_loopw [8] (fun x w9 => ∃ i : Nat, i ≤ k ∧ x = .int .i64 (i : Int) ∧ Hid (∀ j, j < i → (h j).a + (h j).d ≤ (t : Int)) ∧ Hid (Drew w7 w9)) (fun x _ => k - (intOf x).toNat)
      case atStart => exact ⟨0, by omega, rfl, fun j hj => absurd hj (Nat.not_lt_zero _), Drew.refl _⟩
      case round =>
        clear hkd
        obtain ⟨i, hi, rfl, HI, HD⟩ := hrel
        have HB3 := hid (HB2.out.trans (HD.out.below _))
        by_cases hik : i < k
        · obtain ⟨b, o, rfl, hlt, c0, c1, _⟩ := (H.out.keep HB3.out) i hik
          have hik' : (i : Int) < (k : Int) := by omega
          have hi0 : (0 : Int) ≤ (i : Int) := by omega
          obtain ⟨a, d, e1, e2, e3, e4⟩ := scr_nat HS.out hik
          rw [e1] at c0
          rw [e2] at c1
          have hadw : IntKind.i64.wrap ((a : Int) + (d : Int)) = (a : Int) + (d : Int) := IntWalk.i64_in _ (by omega)
          by_cases h2 : (a : Int) + (d : Int) ≤ (t : Int)
          · have h2' : decide ((a : Int) + (d : Int) ≤ (t : Int)) = true := decide_eq_true h2
            have HI2 : Hid (∀ j, j < i + 1 → (h j).a + (h j).d ≤ (t : Int)) := fun j hj => by
              by_cases e : j = i
              · rw [e, e1, e2]; exact h2
              · exact HI.out j (by omega)
            clear e1 e2 HI
            go_wp2
            go_quiet (fail)
            go_wp2
            go_roundw
            case rel => exact ⟨i + 1, by omega, by go_num, HI2, HD.out.more _⟩
            case measure => simp [intOf]; omega
          · have h2' : decide ((a : Int) + (d : Int) ≤ (t : Int)) = false := decide_eq_false h2
            obtain ⟨z, hz⟩ : ∃ z, z = Es.gro (el h i) := ⟨_, rfl⟩
            have hzb := gro_small HBD.out i (by omega)
            rw [← hz] at hzb
            have HZ := hid hz
            have HVV : Hid (V = ((t : Int) + z, true)) := by
              show _ = _
              have := Es.plc_miss HS.out.ch (t := (t : Int)) (i := i) (by rw [el_len]; exact hi) (fun j hj => by rw [el_at (by omega)]; exact HI.out j hj) (fun _ => by
                rw [el_at hik]
                have := HKA.out i hik
                rw [e1, e2] at this
                rw [e1]
                omega)
              rw [HV.out, this, el_take hi, hz]
            have hzw : IntKind.i64.wrap ((t : Int) + z) = (t : Int) + z := IntWalk.i64_in _ (by omega)
            have HBK : Hid (∀ j, j < i → -1000000 ≤ ((h j).s.size : Int) - (h j).d ∧ ((h j).s.size : Int) - (h j).d ≤ 1000000) := fun j hj => HBD.out j (by omega)
            have hkc : (i : Int) ≤ (c : Int) := by omega
            have hk1000 : i ≤ 1000 := by omega
            have HGR : Hid (∀ d, EvRow (wr.drewN d) (some ⟨b, o, none⟩) i h) := fun _ => (H.out.keep HB3.out).less hi
            clear e1 e2 HI HV HKA hz
            go_wp2
            go_quiet (fail)
            go_wp2_with fail
            with_reducible refine (Grows_ok _ (HGR.out _) hk1000 HBK.out).mono ?_
            rintro e w8 ⟨he, hb8⟩
            rw [← HZ.out] at he
            subst he
            have HB9 := hid (bl_then (bl_drewN HB3.out _) hb8)
            clear hb8
            go_wp2
            go_ret2
            exact ⟨by rw [HVV.out]; rfl, HB9.out⟩
        · obtain rfl : i = k := by omega
          have hkd : decide ((i : Int) < (i : Int)) = false := decide_eq_false (by omega)
          obtain ⟨z, hz⟩ : ∃ z, z = Es.gro (el h i) := ⟨_, rfl⟩
          have hzb := gro_small HBD.out i (by omega)
          rw [← hz] at hzb
          have HZ := hid hz
          have HVV : Hid (V = ((t : Int) + z, true)) := by
            show _ = _
            have := Es.plc_miss HS.out.ch (t := (t : Int)) (i := i) (by rw [el_len]; exact hi) (fun j hj => by rw [el_at (by omega)]; exact HI.out j hj) (fun h => by rw [el_len] at h; omega)
            rw [HV.out, this, el_take hi, hz]
          have hzw : IntKind.i64.wrap ((t : Int) + z) = (t : Int) + z := IntWalk.i64_in _ (by omega)
          have hkc : (i : Int) ≤ (c : Int) := by omega
          have hk1000 : i ≤ 1000 := by omega
          have HGR : Hid (∀ d, EvRow (wr.drewN d) A i h) := fun d => H.out.keep (bl_drewN HB3.out d)
          clear HI HV HKA hz
          go_wp2
          go_quiet (fail)
          go_wp2_with fail
          with_reducible refine (Grows_ok _ (HGR.out _) hk1000 HBD.out).mono ?_
          rintro e w8 ⟨he, hb8⟩
          rw [← HZ.out] at he
          subst he
          have HB9 := hid (bl_then (bl_drewN HB3.out _) hb8)
          clear hb8
          go_wp2
          go_ret2
          exact ⟨by rw [HVV.out]; rfl, HB9.out⟩
end Go.Proofs.Ytapjodbaaejldaa
