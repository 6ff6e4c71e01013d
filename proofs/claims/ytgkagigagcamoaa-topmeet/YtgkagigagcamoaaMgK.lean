
/-
The contracts of package merge's own steps: clash, without.
-/
import Derived.Test.YtgkagigagcamoaaMgKMath
import Derived.Test.YtgkagigagcamoaaSeg47
import Derived.Test.YtgkagigagcamoaaSeg45
namespace Go.Proofs.Ytgkagigagcamoaa
open Go.RowKit

set_option maxHeartbeats 4000000 in
theorem clash_any {A B : Option Addr} {n m c1 c2 : Nat} {g h : Nat → Es.Ev} (w : World) (hr1 : EvRow w A n g) (hr2 : EvRow w B m h) (hb1 : ∀ k, k < n → Bn (g k)) (hb2 : ∀ k, k < m → Bn (h k)) (hn : n ≤ 100000) (hm : m ≤ 100000) :
    Calls Try.prog 47 #[.slice A n c1, .slice B m c2] w fun e w' => e = .returned (.bool (Es.clsB (el g n) (el h m))) ∧ Below w.heap.size w w' := by
  have H1 := hid hr1
  have H2 := hid hr2
  have HB1 := hid hb1
  have HB2 := hid hb2
  have hnq := ev_neq
  have hgd := ev_guard
  clear hr1 hr2 hb1 hb2
  go_enter Try.func47, Try.ntmps47
  go_wp2
  go_loopw [11] (fun x wr => ∃ k : Nat, k ≤ n ∧ x = .int .i64 (k : Int) ∧ Hid (∀ j, j < k → (el h m).any (Es.cl (g j)) = false) ∧ Hid (Below w.heap.size w wr)) (fun x _ => n - (intOf x).toNat)
  case atStart => exact ⟨0, by omega, rfl, fun j hj => absurd hj (Nat.not_lt_zero _), Below.refl _ _⟩
  case round =>
    obtain ⟨k, hk, rfl, HZ, HB⟩ := hrel
    by_cases hkn : k < n
    · obtain ⟨b, o, rfl, hlt, c0, c1', c2'⟩ := (H1.out.keep HB.out) k hkn
      have hkn' : (k : Int) < (n : Int) := by omega
      obtain ⟨x, hx⟩ : ∃ x, x = g k := ⟨_, rfl⟩
      have HX := hid hx
      rw [← hx] at c0 c1' c2'
      have HBX : Hid (Bn x) := by show Bn x; rw [hx]; exact HB1.out k hkn
      have HBLK := hid (EvBlk.new wr x _ rfl)
      have HB3 := hid (bl_then HB.out (bl_new wr (.cells #[.int .i64 x.a, .int .i64 x.d, .string x.s] 59)))
      have hsz : wr.heap.size < (wr.alloc (.cells #[.int .i64 x.a, .int .i64 x.d, .string x.s] 59)).heap.size := by simp
      obtain ⟨P, hP⟩ : ∃ P, P = wr.heap.size := ⟨_, rfl⟩
      have HPQ := hid hP
      rw [← hP] at HBLK hsz
      clear hx hP
      go_wp2
      rw [← HPQ.out]
      generalize wr.alloc (.cells #[.int .i64 x.a, .int .i64 x.d, .string x.s] 59) = w1 at *
      clear HPQ c0 c1' c2' hlt
      generalize wr = w6 at *
      go_loopw [17] (fun y w7 => ∃ i : Nat, i ≤ m ∧ y = .int .i64 (i : Int) ∧ Hid (∀ j, j < i → Es.cl x (h j) = false) ∧ Hid (Below w1.heap.size w1 w7)) (fun y _ => m - (intOf y).toNat)
      case atStart => exact ⟨0, by omega, rfl, fun j hj => absurd hj (Nat.not_lt_zero _), Below.refl _ _⟩
      case round =>
        obtain ⟨i, hi, rfl, HI, HW⟩ := hrel
        by_cases him : i < m
        · obtain ⟨b2, o2, rfl, hlt2, d0, d1, d2⟩ := (H2.out.keep (bl_then HB3.out HW.out)) i him
          have him' : (i : Int) < (m : Int) := by omega
          obtain ⟨y, hy⟩ : ∃ y, y = h i := ⟨_, rfl⟩
          have HY := hid hy
          rw [← hy] at d0 d1 d2
          have hby := HB2.out i him
          rw [← hy] at hby
          have HBLK7 : Hid (EvBlk wr P x) := (HW.out.block P hsz).trans HBLK.out
          have HBLK8 : Hid (EvBlk (wr.alloc (.cells #[.int .i64 y.a, .int .i64 y.d, .string y.s] 59)) P x) := HBLK7.out.alloc _
          have HBY := hid (EvBlk.new wr y _ rfl)
          obtain ⟨z0, z1, z2⟩ := HBLK8.out.cells
          obtain ⟨e0, e1, e2⟩ := HBY.out.cells
          have HW2 := hid (HW.out.alloc HW.out.size (.cells #[.int .i64 y.a, .int .i64 y.d, .string y.s] 59))
          have hsm := evB_sm x y
          have hcl : Es.cl x y = (!Es.sm x y && decide (x.a ≤ y.a + y.d) && decide (y.a ≤ x.a + x.d)) := rfl
          rw [← hsm] at hcl
          obtain ⟨x1, x2, x3, x4⟩ := HBX.out
          obtain ⟨y1, y2, y3, y4⟩ := hby
          have v1 : IntKind.i64.wrap (y.a + y.d) = y.a + y.d := IntWalk.i64_in _ (by omega)
          have v2 : IntKind.i64.wrap (x.a + x.d) = x.a + x.d := IntWalk.i64_in _ (by omega)
          have HCL := hid hcl
          clear hsm hcl hy x1 x2 x3 x4 y1 y2 y3 y4 HW HBLK7 hlt2
          have HNX : Hid (Es.cl x y = false → ∀ j, j < i + 1 → Es.cl x (h j) = false) := fun hc j hj => by
            by_cases hji : j < i
            · exact HI.out j hji
            · obtain rfl : j = i := by omega
              rw [← HY.out]; exact hc
          by_cases h1 : evB x.a x.d x.s y.a y.d y.s = true
          · have hcf : Hid (Es.cl x y = false) := by show _ = _; rw [HCL.out, h1]; rfl
            clear HCL
            go_wp2
            go_roundw
            case measure => simp [intOf]; omega
            case rel => exact ⟨i + 1, by omega, by go_num, HNX.out hcf.out, HW2⟩
          · have h1 := Bool.eq_false_iff.2 h1
            by_cases h2 : x.a ≤ y.a + y.d
            · have h2' := decide_eq_true h2
              by_cases h3 : y.a ≤ x.a + x.d
              · have h3' := decide_eq_true h3
                have hcf : Hid (Es.cl x y = true) := by show _ = _; rw [HCL.out, h1, h2', h3']; rfl
                have HF : Hid (Es.clsB (el g n) (el h m) = true) := Es.clsB_iff.2 ⟨x, by rw [HX.out]; unfold el; exact List.mem_map.2 ⟨k, List.mem_range.2 hkn, rfl⟩, y, by rw [HY.out]; unfold el; exact List.mem_map.2 ⟨i, List.mem_range.2 him, rfl⟩, Es.cl_iff.1 hcf.out⟩
                clear HCL h2 h3
                go_wp2
                go_ret
                exact ⟨by rw [HF.out]; rfl, bl_then HB3.out HW2.out⟩
              · have h3' := decide_eq_false h3
                have hcf : Hid (Es.cl x y = false) := by show _ = _; rw [HCL.out, h1, h2', h3']; rfl
                clear HCL h2 h3
                go_wp2
                go_roundw
                case measure => simp [intOf]; omega
                case rel => exact ⟨i + 1, by omega, by go_num, HNX.out hcf.out, HW2⟩
            · have h2' := decide_eq_false h2
              have hcf : Hid (Es.cl x y = false) := by show _ = _; rw [HCL.out, h1, h2']; rfl
              clear HCL h2
              go_wp2
              go_roundw
              case measure => simp [intOf]; omega
              case rel => exact ⟨i + 1, by omega, by go_num, HNX.out hcf.out, HW2⟩
        · obtain rfl : i = m := by omega
          have hkd : decide ((i : Int) < (i : Int)) = false := decide_eq_false (by omega)
          have HZ2 : Hid (∀ j, j < k + 1 → (el h i).any (Es.cl (g j)) = false) := fun j hj => by
            by_cases hjk : j < k
            · exact HZ.out j hjk
            · obtain rfl : j = k := by omega
              rw [← HX.out, List.any_eq_false]
              intro y hy
              unfold el at hy
              obtain ⟨q, hq, rfl⟩ := List.mem_map.1 hy
              rw [HI.out q (List.mem_range.1 hq)]
              decide
          have HB4 := hid (bl_then HB3.out HW.out)
          clear HZ HI
          go_wp2
          go_roundw
          case measure => simp [intOf]; omega
          case rel => exact ⟨k + 1, by omega, by go_num, HZ2, HB4⟩
    · obtain rfl : k = n := by omega
      have hkd : decide ((k : Int) < (k : Int)) = false := decide_eq_false (by omega)
      have HF : Hid (Es.clsB (el g k) (el h m) = false) := by
        show _ = _
        unfold Es.clsB
        rw [List.any_eq_false]
        intro x hx
        unfold el at hx
        obtain ⟨j, hj, rfl⟩ := List.mem_map.1 hx
        have := HZ.out j (List.mem_range.1 hj)
        rw [this]
        decide
      clear HZ
      go_wp2
      go_ret
      exact ⟨by rw [HF.out]; rfl, HB.out⟩

set_option maxHeartbeats 4000000 in
/-- The edits of l that are not in done: a row of the call's own. -/
theorem without_any {A B : Option Addr} {n m c1 c2 : Nat} {g h : Nat → Es.Ev} (w : World) (hr1 : EvRow w A n g) (hr2 : EvRow w B m h) (hn : n ≤ 100000) (hm : m ≤ 100000) :
    Calls Try.prog 49 #[.slice A n c1, .slice B m c2] w fun e w' => ∃ v, e = .returned v ∧ OwnE w' w.heap.size v (Es.wo (el h m) (el g n)) ∧ Below w.heap.size w w' := by
  have H1 := hid hr1
  have H2 := hid hr2
  have hmm : m ≤ maxLen := Nat.le_trans hm (by decide)
  clear hr1 hr2
  go_enter Try.func49, Try.ntmps49
  go_wp2
  go_loopw [5, 10] (fun v x wr => ∃ (k : Nat) (vv : Value), vv = v ∧ k ≤ n ∧ x = .int .i64 (k : Int) ∧ Hid (OwnE wr w.heap.size vv (Es.wo (el h m) (el g k))) ∧ Hid (Below w.heap.size w wr)) (fun _ x _ => n - (intOf x).toNat)
  case atStart => exact ⟨0, _, rfl, by omega, rfl, OwnE.zero _ _, Below.refl _ _⟩
  case round =>
    obtain ⟨k, vv, rfl, hk, rfl, HV, HB⟩ := hrel
    by_cases hkn : k < n
    · obtain ⟨b, o, rfl, hlt, c0, c1', c2'⟩ := (H1.out.keep HB.out) k hkn
      have hkn' : (k : Int) < (n : Int) := by omega
      obtain ⟨x, hx⟩ : ∃ x, x = g k := ⟨_, rfl⟩
      have HX := hid hx
      rw [← hx] at c0 c1' c2'
      have HBLK := hid (EvBlk.new wr x _ rfl)
      have HB3 := hid (bl_then HB.out (bl_new wr (.cells #[.int .i64 x.a, .int .i64 x.d, .string x.s] 59)))
      have HV3 : Hid (OwnE (wr.alloc (.cells #[.int .i64 x.a, .int .i64 x.d, .string x.s] 59)) w.heap.size vv (Es.wo (el h m) (el g k))) := HV.out.alloc _
      have HR2 := hid (H2.out.keep HB3.out)
      have HSN : Hid (Es.wo (el h m) (el g (k + 1)) = if Es.has (el h m) x = true then Es.wo (el h m) (el g k) else Es.wo (el h m) (el g k) ++ [x]) := by
        show _ = _
        rw [el_succ, Es.wo_snoc, HX.out]
      have hlen : (Es.wo (el h m) (el g k)).length < 1000000 := by have := Es.wo_len (el h m) (el g k); rw [el_len] at this; omega
      obtain ⟨hca0, hca1, hca2⟩ := HBLK.out.cells
      clear hx
      go_wp2_with fail
      with_reducible refine (evHas_any x _ HR2.out hmm).mono ?_
      rintro e w1 ⟨rfl, hb2⟩
      have HB4 := hid (bl_then HB3.out hb2)
      have HV4 := hid (HV3.out.low hb2)
      have HBLK4 : Hid (EvBlk w1 wr.heap.size x) := (hb2.block wr.heap.size (by simp)).trans HBLK.out
      clear hb2 HV3 HB3 HBLK hca0 hca1 hca2 c0 c1' c2' HV
      by_cases hh : Es.has (el h m) x = true
      · have HV5 : Hid (OwnE w1 w.heap.size vv (Es.wo (el h m) (el g (k + 1)))) := by
          have := HSN.out
          rw [if_pos hh] at this
          show OwnE _ _ _ _
          rw [this]
          exact HV4.out
        rw [hh]
        clear hh HSN HV4
        go_wp2
        go_roundw
        case measure => simp [intOf]; omega
        case rel => exact ⟨k + 1, vv, rfl, by omega, by go_num, HV5, HB4⟩
      · have HSN : Hid (Es.wo (el h m) (el g (k + 1)) = Es.wo (el h m) (el g k) ++ [x]) := by
          have := HSN.out
          rw [if_neg hh] at this
          exact this
        have hh := Bool.eq_false_iff.2 hh
        rw [hh]
        obtain ⟨y0, y1, y2⟩ := HBLK4.out.cells
        clear hh
        go_wp2_with (at_builtin; with_reducible refine app_ev (x := x) rfl _ _ rfl rfl HV4.out w1.heap.size rfl rfl HB4.out.size (Es.wo (el h m) (el g k)).length rfl hlen ?_)
        intro g' cap w10 hown hgr
        have HV10 : Hid (OwnE w10 w.heap.size (.slice (some ⟨g', 0, none⟩) ((Es.wo (el h m) (el g k)).length + 1) cap) (Es.wo (el h m) (el g (k + 1)))) := by
          show OwnE _ _ _ _
          rw [HSN.out]
          exact hown
        have HB10 : Hid (Below w.heap.size w w10) := hid (HB4.out.grown hgr HB4.out.size fun q hq => (HV4.out.lt_ q hq).1)
        clear hown hgr y0 y1 y2 HV4 HB4
        go_wp2
        go_roundw
        case measure => simp [intOf]; omega
        case rel => exact ⟨k + 1, _, rfl, by omega, by go_num, HV10, HB10⟩
    · obtain rfl : k = n := by omega
      have hkd : decide ((k : Int) < (k : Int)) = false := decide_eq_false (by omega)
      go_wp2
      go_ret
      exact ⟨vv, rfl, HV.out, HB.out⟩
end Go.Proofs.Ytgkagigagcamoaa
