
/-
The contract of dist.distance: the edit distance of two words, by one row.
-/
import Derived.Test.YtejcijlmpiiffaaLevMath
import Derived.Test.YtejcijlmpiiffaaWordB
import Derived.Test.YtejcijlmpiiffaaLst
import Derived.BigRegion
namespace Go.Proofs.Ytejcijlmpiiffaa
open Go.RowKit

/-- The row in the making: i bytes of a are done, and of the next one j places. -/
def rowF (a b : List UInt8) (i j q : Nat) : Nat := if q ≤ j then Lev.fl a b (i + 1) q else Lev.fl a b i q
/-- The row at B of size M holds f. -/
structure DRow (w wr : World) (B M : Nat) (f : Nat → Nat) : Prop where
  below : Below B w wr
  row : wr.rowIs B 3 M (fun q => .int .i64 (f q : Nat))
theorem DRow.congr {w wr : World} {B M : Nat} {f g : Nat → Nat} (h : DRow w wr B M f) (e : ∀ q, q < M → f q = g q) : DRow w wr B M g := ⟨h.below, h.row.congr fun q hq => by rw [e q hq]⟩
theorem DRow.drewN {w wr : World} {B M : Nat} {f : Nat → Nat} (h : DRow w wr B M f) (d : Nat) : DRow w (wr.drewN d) B M f := ⟨bl_drewN h.below d, h.row⟩
theorem DRow.set {w wr : World} {B M j v : Nat} {f g : Nat → Nat} (h : DRow w wr B M f) (e : ∀ q, q < M → g q = if q = j then v else f q) : DRow w (wr.setCell ⟨B, j, none⟩ (.int .i64 (v : Nat))) B M g := by
  refine ⟨h.below.setCell (Nat.le_refl _) _, (World.rowIs.set h.row j _).congr fun q hq => ?_⟩
  rw [e q hq]
  by_cases k : q = j
  · rw [if_pos k, if_pos k]
  · rw [if_neg k, if_neg k]

theorem min_three (P : Program) (W : World) (ts : Array TypeId) (ty : TypeId) (x y z m : Int) (h : m = min x (min y z)) : (Builtin.min_ ts ty #[.int .i64 x, .int .i64 y, .int .i64 z]).run P W = .ok (.int .i64 m) W := by
  have e : (if z < (if y < x then y else x) then z else (if y < x then y else x)) = m := by
    rw [h]
    split <;> split at * <;> omega
  simp [Builtin.min_, Builtin.min2, e]

set_option maxHeartbeats 2000000 in
theorem distance_ok (a b : ByteArray) (w : World) (ha : a.size ≤ 200) (hb : b.size ≤ 200) :
    Calls Try.prog 35 #[.string a, .string b] w fun e w' => e = .returned (.int .i64 (Lev.lv (lst a) (lst b) : Nat)) ∧ Below w.heap.size w w' := by
  obtain ⟨M, hM⟩ : ∃ M, M = b.size + 1 := ⟨_, rfl⟩
  have eM : (b.size : Int) + 1 = (M : Int) := by omega
  have hwM : IntKind.i64.wrap (M : Int) = (M : Int) := IntWalk.i64_in _ (by omega)
  have hM5 : M ≤ 201 := by omega
  have hbM : b.size < M := by omega
  have hbM' : (b.size : Int) < (M : Int) := by omega
  have hM0 : 0 < M := by omega
  have hM0' : (0 : Int) < (M : Int) := by omega
  have HM := hid hM
  have HLA := hid (lst_len a)
  have HLB := hid (lst_len b)
  clear hM
  have hmk := run_make_row' (P := Try.prog) 45 3 (.int .i64 0) 8 Try.underlying45 Try.infoInt rfl .i64 .i64 M (by omega) (by omega) w
  have HR0 : Hid (DRow w (w.alloc (.cells (madeCells #[.int .i64 0] M) 3)) w.heap.size M (fun q => if q < 0 then q else 0)) := ⟨bl_new w _, World.rowIs_made w (.int .i64 0) M 3⟩
  generalize w.alloc (.cells (madeCells #[.int .i64 0] M) 3) = w0 at hmk HR0
  go_enter Try.func35, Try.ntmps35
  go_wp2
  clear hmk
  go_loopw [17] (fun x wr => ∃ i : Nat, i ≤ M ∧ x = .int .i64 (i : Int) ∧ Hid (DRow w wr w.heap.size M (fun q => if q < i then q else 0))) (fun x _ => M - (intOf x).toNat)
  case atStart => exact ⟨0, by omega, rfl, HR0⟩
  case round =>
    clear HR0
    obtain ⟨i, hi, rfl, HT⟩ := hrel
    by_cases hlt : i < M
    · have hlt' : (i : Int) < (M : Int) := by omega
      have f1 := HT.out.row.frozen i
      have c1 := HT.out.row.cell hlt
      have R := hid (HT.out.set (j := i) (v := i) (g := fun q => if q < i + 1 then q else 0) (fun q _ => by
        by_cases h : q = i
        · rw [if_pos h, if_pos (by omega), h]
        · rw [if_neg h]
          by_cases h2 : q < i
          · rw [if_pos h2, if_pos (by omega)]
          · rw [if_neg h2, if_neg (by omega)]))
      clear HT
      go_wp2
      go_roundw
      case rel => exact ⟨i + 1, by omega, by go_num, R⟩
      case measure => simp [intOf]; omega
    · have HT' : Hid (DRow w wr w.heap.size M (Lev.fl (lst a) (lst b) 0)) := HT.out.congr fun q hq => by
        have e : i = M := by omega
        rw [e, if_pos hq, Lev.fl_none (lst a) (lst b) (by rw [HLB.out]; have := HM.out; omega)]
      have hd : decide ((i : Int) < (M : Int)) = false := decide_eq_false (by omega)
      clear HT
      go_wp2
      go_loopw [27] (fun x wr => ∃ i : Nat, i ≤ a.size ∧ x = .int .i64 (i : Int) ∧ Hid (DRow w wr w.heap.size M (Lev.fl (lst a) (lst b) i))) (fun x _ => a.size - (intOf x).toNat)
      case atStart => exact ⟨0, by omega, rfl, HT'⟩
      case round =>
        clear HT' hd hlt hi
        obtain ⟨i, hi, rfl, HT⟩ := hrel
        by_cases hia : i < a.size
        · have hia' : (i : Int) < (a.size : Int) := by omega
          have c1 := HT.out.row.cell hM0
          have f1 := HT.out.row.frozen 0
          try simp only at c1
          rw [Lev.fl_none' (lst a) (lst b) (by rw [HLA.out]; omega)] at c1
          obtain ⟨i1, hi1⟩ : ∃ i1, i1 = i + 1 := ⟨_, rfl⟩
          have ei1 : (i : Int) + 1 = (i1 : Int) := by omega
          have hwi1 : IntKind.i64.wrap (i1 : Int) = (i1 : Int) := IntWalk.i64_in _ (by omega)
          have R := hid (HT.out.set (j := 0) (v := i1) (g := rowF (lst a) (lst b) i 0) (fun q _ => by
            unfold rowF
            by_cases h : q = 0
            · rw [if_pos h, if_pos (by omega), h, Lev.fl_none' (lst a) (lst b) (by rw [HLA.out]; omega), hi1]
            · rw [if_neg h, if_neg (by omega)]))
          clear HT hi1
          go_wp2
          go_loopw [8, 40] (fun v x wr => ∃ j : Nat, j ≤ b.size ∧ x = .int .i64 (j : Int) ∧ v = .int .i64 (Lev.fl (lst a) (lst b) i j : Nat) ∧ Hid (DRow w wr w.heap.size M (rowF (lst a) (lst b) i j))) (fun _ x _ => b.size - (intOf x).toNat)
          case atStart => exact ⟨0, by omega, rfl, by rw [Lev.fl_none' (lst a) (lst b) (by rw [HLA.out]; omega)], R⟩
          case round =>
            clear R c1 f1
            obtain ⟨j, hj, rfl, rfl, HW⟩ := hrel
            by_cases hjb : j < b.size
            · have hjb' : (j : Int) < (b.size : Int) := by omega
              obtain ⟨j1, hj1⟩ : ∃ j1, j1 = j + 1 := ⟨_, rfl⟩
              have ej : (j : Int) + 1 = (j1 : Int) := by omega
              have hjw : IntKind.i64.wrap (j1 : Int) = (j1 : Int) := IntWalk.i64_in _ (by omega)
              have hj0 : (0 : Int) ≤ (j1 : Int) := by omega
              have hjM : j < M := by omega
              have hj1M : j1 < M := by omega
              have hjM' : (j : Int) < (M : Int) := by omega
              have hj1M' : (j1 : Int) < (M : Int) := by omega
              have c1 := HW.out.row.cell hjM
              have c2 := HW.out.row.cell hj1M
              have f2 := HW.out.row.frozen j1
              try simp only at c1 c2
              have e1 : rowF (lst a) (lst b) i j j = Lev.fl (lst a) (lst b) (i + 1) j := if_pos (Nat.le_refl _)
              have e2 : rowF (lst a) (lst b) i j j1 = Lev.fl (lst a) (lst b) i (j + 1) := by unfold rowF; rw [if_neg (by omega), hj1]
              rw [e1] at c1
              rw [e2] at c2
              obtain ⟨t, ht⟩ : ∃ t, t = Lev.fl (lst a) (lst b) i j := ⟨_, rfl⟩
              obtain ⟨u, hu⟩ : ∃ u, u = Lev.fl (lst a) (lst b) (i + 1) j := ⟨_, rfl⟩
              obtain ⟨v, hv⟩ : ∃ v, v = Lev.fl (lst a) (lst b) i (j + 1) := ⟨_, rfl⟩
              obtain ⟨z, hz⟩ : ∃ z, z = Lev.fl (lst a) (lst b) (i + 1) (j + 1) := ⟨_, rfl⟩
              have hst := Lev.fl_step (a := lst a) (b := lst b) (i := i) (j := j) (by rw [HLA.out]; exact hia) (by rw [HLB.out]; exact hjb)
              rw [← ht, ← hu, ← hv, ← hz] at hst
              rw [← ht]
              rw [← hu] at c1
              rw [← hv] at c2
              have ht5 : t ≤ 400 := by rw [ht]; have := @Lev.fl_le (lst a) (lst b) i j; omega
              have hu5 : u ≤ 400 := by rw [hu]; have := @Lev.fl_le (lst a) (lst b) (i + 1) j; omega
              have hv5 : v ≤ 400 := by rw [hv]; have := @Lev.fl_le (lst a) (lst b) i (j + 1); omega
              have hwt : IntKind.i64.wrap ((t : Int) + 1) = (t : Int) + 1 := IntWalk.i64_in _ (by omega)
              have hwu : IntKind.i64.wrap ((u : Int) + 1) = (u : Int) + 1 := IntWalk.i64_in _ (by omega)
              have hwv : IntKind.i64.wrap ((v : Int) + 1) = (v : Int) + 1 := IntWalk.i64_in _ (by omega)
              have R := hid (fun d => (HW.out.drewN d).set (j := j1) (v := z) (g := rowF (lst a) (lst b) i (j + 1)) (fun q _ => by
                unfold rowF
                by_cases h : q = j1
                · rw [if_pos h, if_pos (by omega), h, hj1, hz]
                · rw [if_neg h]
                  by_cases h2 : q ≤ j
                  · rw [if_pos h2, if_pos (by omega)]
                  · rw [if_neg h2, if_neg (by omega)]))
              have HV := hid hv
              have HJ1 := hid hj1
              by_cases he : byt a i = byt b j
              · have heq : ((a[i].toNat : Int) == (b[j].toNat : Int)) = true := by rw [← byt_eq hia, ← byt_eq hjb, he]; simp
                have heq2 : ((a[i].toNat : Int) != (b[j].toNat : Int)) = false := by rw [← byt_eq hia, ← byt_eq hjb, he]; simp
                rw [if_pos (show (lst a).getD i 0 = (lst b).getD j 0 from he)] at hst
                have hmn := fun (W : World) => min_three Try.prog W #[3, 3, 3] 3 (t : Int) ((u : Int) + 1) ((v : Int) + 1) (z : Int) (by omega)
                clear he hst ht hu hv hz e1 e2 HW hj1
                go_wp2
                go_quiet (fail)
                go_wp2
                go_region
                go_wp2
                go_roundw
                case rel => exact ⟨j + 1, by omega, by go_num, by rw [HV.out], hid (R.out _)⟩
                case measure => simp [intOf]; omega
              · have heq : ((a[i].toNat : Int) == (b[j].toNat : Int)) = false := by rw [← byt_eq hia, ← byt_eq hjb]; exact (byte_ne he).2
                have heq2 : ((a[i].toNat : Int) != (b[j].toNat : Int)) = true := by rw [← byt_eq hia, ← byt_eq hjb]; exact (byte_ne he).1
                rw [if_neg (show ¬ (lst a).getD i 0 = (lst b).getD j 0 from he)] at hst
                have hmn := fun (W : World) => min_three Try.prog W #[3, 3, 3] 3 ((t : Int) + 1) ((u : Int) + 1) ((v : Int) + 1) (z : Int) (by omega)
                clear he hst ht hu hv hz e1 e2 HW hj1
                go_wp2
                go_quiet (fail)
                go_wp2
                go_region
                go_wp2
                go_roundw
                case rel => exact ⟨j + 1, by omega, by go_num, by rw [HV.out], hid (R.out _)⟩
                case measure => simp [intOf]; omega
            · obtain rfl : j = b.size := by omega
              have hd : decide ((b.size : Int) < (b.size : Int)) = false := decide_eq_false (by omega)
              have HR2 : Hid (DRow w wr w.heap.size M (Lev.fl (lst a) (lst b) (i + 1))) := HW.out.congr fun q hq => by
                unfold rowF
                rw [if_pos (by have := HM.out; omega)]
              clear HW
              go_wp2
              go_roundw
              case rel => exact ⟨i + 1, by omega, by go_num, HR2⟩
              case measure => simp [intOf]; omega
        · obtain rfl : i = a.size := by omega
          have hd : decide ((a.size : Int) < (a.size : Int)) = false := decide_eq_false (by omega)
          have c1 := HT.out.row.cell hbM
          try simp only at c1
          have ef : Lev.fl (lst a) (lst b) a.size b.size = Lev.lv (lst a) (lst b) := by
            have := Lev.fl_all (lst a) (lst b)
            rwa [HLA.out, HLB.out] at this
          rw [ef] at c1
          have HB := hid HT.out.below
          clear HT ef
          go_wp2
          go_ret
          exact ⟨rfl, HB.out⟩
end Go.Proofs.Ytejcijlmpiiffaa
