/-
The contract of seek.fronts and seek.Fronts: how far the string begins anew at each place.
-/
import Derived.Test.YtcnfdmpggnhlgaaWordB
import Derived.Test.YtcnfdmpggnhlgaaSeekMath
namespace Go.Proofs.Ytcnfdmpggnhlgaa
open Go.RowKit

/-- What seek.fronts has written when it is at i. -/
def zfill (s : ByteArray) (i j : Nat) : Int := if j < i then (Wm.zf (byt s) s.size j : Int) else 0
theorem zfill_lt {s : ByteArray} {i j : Nat} (h : j < i) : zfill s i j = (Wm.zf (byt s) s.size j : Int) := by unfold zfill; rw [if_pos h]
theorem zfill_succ (s : ByteArray) (i j : Nat) : zfill s (i + 1) j = if j = i then (Wm.zf (byt s) s.size i : Int) else zfill s i j := by
  unfold zfill
  by_cases h : j = i
  · subst h; simp
  · rw [if_neg h]
    by_cases h2 : j < i
    · rw [if_pos h2, if_pos (by omega)]
    · rw [if_neg h2, if_neg (by omega)]
theorem zrel_store {w wr : World} {s : ByteArray} {B n i : Nat} {t : TypeId} {v : Int} (hrow : wr.rowIs B t n (fun j => .int .i64 (zfill s i j))) (hbel : Below B w wr) (hv : v = (Wm.zf (byt s) s.size i : Int)) :
    ∀ d, ((wr.drewN d).setCell ⟨B, i, none⟩ (.int .i64 v)).rowIs B t n (fun j => .int .i64 (zfill s (i + 1) j)) ∧ Below B w ((wr.drewN d).setCell ⟨B, i, none⟩ (.int .i64 v)) := by
  intro d
  refine ⟨(World.rowIs.set (w := wr.drewN d) hrow i _).congr fun j _ => ?_, (bl_drewN hbel d).setCell (Nat.le_refl _) _⟩
  rw [zfill_succ]
  by_cases h : j = i
  · rw [if_pos h, if_pos h, hv]
  · rw [if_neg h, if_neg h]
set_option maxHeartbeats 400000 in
theorem fronts_ok (s : ByteArray) (w : World) (hs : s.size ≤ 200) (h0 : 0 < s.size) :
    Calls Try.prog 66 #[.string s] w (RetInts s.size (fun k => (Wm.zf (byt s) s.size k : Int)) w) := by
  have hmk := run_make_row' (P := Try.prog) 22 3 (.int .i64 0) 8 Try.underlying22 Try.infoInt rfl .i64 .i64 s.size (by omega) (by omega) w
  have hne := some_bytes h0
  have hmade := World.rowIs_made w (.int .i64 0) s.size 3
  have hb0 := bl_new w (.cells (madeCells #[.int .i64 0] s.size) 3)
  generalize w.alloc (.cells (madeCells #[.int .i64 0] s.size) 3) = w0 at hmk hmade hb0
  have hroom := hmade.frozen 0
  have hc0 := hmade.cell h0
  have R0 := hid (zrel_store (s := s) (i := 0) (v := (s.size : Int)) (hmade.congr fun j _ => by unfold zfill; rfl) hb0 (by rw [Wm.zf_zero]) 0)
  clear hmade hb0
  go_enter Try.func66, Try.ntmps66
  go_wp2
  go_loopw [4, 5, 6] (fun x y z wr => ∃ a b i : Nat, 1 ≤ i ∧ i ≤ s.size ∧ x = .int .i64 a ∧ y = .int .i64 b ∧ z = .int .i64 i ∧ a < i ∧ b ≤ s.size ∧ Hid (∀ t, a + t < b → byt s t = byt s (a + t)) ∧ (i < b → 1 ≤ a) ∧ wr.rowIs w.heap.size 3 s.size (fun j => .int .i64 (zfill s i j)) ∧ Below w.heap.size w wr)
    (fun _ _ z _ => s.size - (intOf z).toNat)
  case atStart => exact ⟨0, 0, 1, by omega, by omega, rfl, rfl, rfl, by omega, by omega, fun t ht => by omega, fun h => by omega, R0.out.1, R0.out.2⟩
  case round =>
    clear hroom hc0 R0
    obtain ⟨a, b, i, hi1, hi2, rfl, rfl, rfl, hai, hbs, hab, hib, hrow, hbel⟩ := hrel
    by_cases hlt : i < s.size
    · have hlt' : (i : Int) < (s.size : Int) := by omega
      have hz := hrow.lt
      have hroom := hrow.frozen i
      have hci : wr.cell? ⟨w.heap.size, i, none⟩ = some (.int .i64 (zfill s i i)) := hrow.cell hlt
      by_cases hin : i < b
      · have ha1 := hib hin
        have hcell : wr.cell? ⟨w.heap.size, i - a, none⟩ = some (.int .i64 (Wm.zf (byt s) s.size (i - a) : Int)) := by
          rw [hrow.cell (i := i - a) (by omega), zfill_lt (by omega)]
        have hzs := Wm.zf_spec (byt s) s.size (i - a)
        obtain ⟨m, hm⟩ : ∃ m, m = Wm.zf (byt s) s.size (i - a) := ⟨_, rfl⟩
        rw [← hm] at hzs hcell
        have hm1 := hzs.1
        have HZ := hid hzs.2.1
        clear hzs hm
        have eia : (i : Int) - (a : Int) = ((i - a : Nat) : Int) := by omega
        have ebi : (b : Int) - (i : Int) = ((b - i : Nat) : Int) := by omega
        by_cases hmin : b - i ≤ m
        · go_wp2
          clear hcell
          go_loopw [7] (fun x w2 => ∃ k : Nat, i + k ≤ s.size ∧ x = .int .i64 k ∧ Hid (∀ t, t < k → byt s t = byt s (i + t)) ∧ ∃ d, w2 = wr.drewN d) (fun x _ => s.size - (intOf x).toNat)
          case atStart => exact ⟨b - i, by omega, rfl, fun t ht => by rw [HZ.out t (by omega), hab.out (i - a + t) (by omega), show a + (i - a + t) = i + t by omega], 0, rfl⟩
          case round =>
            obtain ⟨k, hk, rfl, hall, d, rfl⟩ := hrel
            obtain ⟨j, hj⟩ : ∃ j, j = i + k := ⟨_, rfl⟩
            have eik : (i : Int) + (k : Int) = (j : Int) := by omega
            have HJ := hid hj
            clear hj
            by_cases hkn : j < s.size
            · have hks : k < s.size := by omega
              have hks' : (k : Int) < (s.size : Int) := by omega
              have hkn' : (j : Int) < (s.size : Int) := by omega
              by_cases he : byt s k = byt s j
              · have heq : ((s[k].toNat : Int) == (s[j].toNat : Int)) = true := by rw [← byt_eq hks, ← byt_eq hkn, he]; simp
                have HA : Hid (∀ t, t < k + 1 → byt s t = byt s (i + t)) := by
                  intro t ht
                  by_cases e : t = k
                  · subst e; rw [← HJ.out]; exact he
                  · exact hall.out t (by omega)
                clear he
                go_wp2
                go_quiet (fail)
                go_wp2
                go_roundw
                case rel => exact ⟨k + 1, by omega, by go_num, HA, _, rfl⟩
                case measure => simp [intOf]; omega
              · have heq : ((s[k].toNat : Int) == (s[j].toNat : Int)) = false := by rw [← byt_eq hks, ← byt_eq hkn]; exact (byte_ne he).2
                have hz : (k : Int) = (Wm.zf (byt s) s.size i : Int) := congrArg Int.ofNat (Wm.zf_unique (by omega) hall.out fun _ => by rw [← HJ.out]; exact he)
                have R := hid (zrel_store hrow hbel hz)
                clear he hz hrow hbel
                by_cases hgt : b < j
                · have hg2 : decide (b < j) = true := by simp; omega
                  go_wp2
                  go_quiet (fail)
                  go_wp2
                  go_roundw
                  case rel => exact ⟨i, j, i + 1, by omega, by omega, rfl, rfl, by go_num, by omega, by omega, fun t ht => hall.out t (by omega), by omega, (R.out _).1, (R.out _).2⟩
                  case measure => simp [intOf]; omega
                · have hg2 : decide (b < j) = false := by simp; omega
                  go_wp2
                  go_quiet (fail)
                  go_wp2
                  go_roundw
                  case rel => exact ⟨a, b, i + 1, by omega, by omega, rfl, rfl, by go_num, by omega, by omega, hab.out, by omega, (R.out _).1, (R.out _).2⟩
                  case measure => simp [intOf]; omega
            · have hz : (k : Int) = (Wm.zf (byt s) s.size i : Int) := congrArg Int.ofNat (Wm.zf_unique (by omega) hall.out fun h => by omega)
              have R := hid (zrel_store hrow hbel hz)
              have hd0 : decide (j < s.size) = false := by simp; omega
              clear hz hrow hbel
              by_cases hgt : b < j
              · have hg2 : decide (b < j) = true := by simp; omega
                go_wp2
                go_quiet (fail)
                go_wp2
                go_roundw
                case rel => exact ⟨i, j, i + 1, by omega, by omega, rfl, rfl, by go_num, by omega, by omega, fun t ht => hall.out t (by omega), by omega, (R.out _).1, (R.out _).2⟩
                case measure => simp [intOf]; omega
              · have hg2 : decide (b < j) = false := by simp; omega
                go_wp2
                go_quiet (fail)
                go_wp2
                go_roundw
                case rel => exact ⟨a, b, i + 1, by omega, by omega, rfl, rfl, by go_num, by omega, by omega, hab.out, by omega, (R.out _).1, (R.out _).2⟩
                case measure => simp [intOf]; omega
        · go_wp2
          clear hcell
          go_loopw [7] (fun x w2 => ∃ k : Nat, i + k ≤ s.size ∧ x = .int .i64 k ∧ Hid (∀ t, t < k → byt s t = byt s (i + t)) ∧ ∃ d, w2 = wr.drewN d) (fun x _ => s.size - (intOf x).toNat)
          case atStart => exact ⟨m, by omega, rfl, fun t ht => by rw [HZ.out t (by omega), hab.out (i - a + t) (by omega), show a + (i - a + t) = i + t by omega], 0, rfl⟩
          case round =>
            obtain ⟨k, hk, rfl, hall, d, rfl⟩ := hrel
            obtain ⟨j, hj⟩ : ∃ j, j = i + k := ⟨_, rfl⟩
            have eik : (i : Int) + (k : Int) = (j : Int) := by omega
            have HJ := hid hj
            clear hj
            by_cases hkn : j < s.size
            · have hks : k < s.size := by omega
              have hks' : (k : Int) < (s.size : Int) := by omega
              have hkn' : (j : Int) < (s.size : Int) := by omega
              by_cases he : byt s k = byt s j
              · have heq : ((s[k].toNat : Int) == (s[j].toNat : Int)) = true := by rw [← byt_eq hks, ← byt_eq hkn, he]; simp
                have HA : Hid (∀ t, t < k + 1 → byt s t = byt s (i + t)) := by
                  intro t ht
                  by_cases e : t = k
                  · subst e; rw [← HJ.out]; exact he
                  · exact hall.out t (by omega)
                clear he
                go_wp2
                go_quiet (fail)
                go_wp2
                go_roundw
                case rel => exact ⟨k + 1, by omega, by go_num, HA, _, rfl⟩
                case measure => simp [intOf]; omega
              · have heq : ((s[k].toNat : Int) == (s[j].toNat : Int)) = false := by rw [← byt_eq hks, ← byt_eq hkn]; exact (byte_ne he).2
                have hz : (k : Int) = (Wm.zf (byt s) s.size i : Int) := congrArg Int.ofNat (Wm.zf_unique (by omega) hall.out fun _ => by rw [← HJ.out]; exact he)
                have R := hid (zrel_store hrow hbel hz)
                clear he hz hrow hbel
                by_cases hgt : b < j
                · have hg2 : decide (b < j) = true := by simp; omega
                  go_wp2
                  go_quiet (fail)
                  go_wp2
                  go_roundw
                  case rel => exact ⟨i, j, i + 1, by omega, by omega, rfl, rfl, by go_num, by omega, by omega, fun t ht => hall.out t (by omega), by omega, (R.out _).1, (R.out _).2⟩
                  case measure => simp [intOf]; omega
                · have hg2 : decide (b < j) = false := by simp; omega
                  go_wp2
                  go_quiet (fail)
                  go_wp2
                  go_roundw
                  case rel => exact ⟨a, b, i + 1, by omega, by omega, rfl, rfl, by go_num, by omega, by omega, hab.out, by omega, (R.out _).1, (R.out _).2⟩
                  case measure => simp [intOf]; omega
            · have hz : (k : Int) = (Wm.zf (byt s) s.size i : Int) := congrArg Int.ofNat (Wm.zf_unique (by omega) hall.out fun h => by omega)
              have R := hid (zrel_store hrow hbel hz)
              have hd0 : decide (j < s.size) = false := by simp; omega
              clear hz hrow hbel
              by_cases hgt : b < j
              · have hg2 : decide (b < j) = true := by simp; omega
                go_wp2
                go_quiet (fail)
                go_wp2
                go_roundw
                case rel => exact ⟨i, j, i + 1, by omega, by omega, rfl, rfl, by go_num, by omega, by omega, fun t ht => hall.out t (by omega), by omega, (R.out _).1, (R.out _).2⟩
                case measure => simp [intOf]; omega
              · have hg2 : decide (b < j) = false := by simp; omega
                go_wp2
                go_quiet (fail)
                go_wp2
                go_roundw
                case rel => exact ⟨a, b, i + 1, by omega, by omega, rfl, rfl, by go_num, by omega, by omega, hab.out, by omega, (R.out _).1, (R.out _).2⟩
                case measure => simp [intOf]; omega
      · go_wp2
        go_loopw [7] (fun x w2 => ∃ k : Nat, i + k ≤ s.size ∧ x = .int .i64 k ∧ Hid (∀ t, t < k → byt s t = byt s (i + t)) ∧ ∃ d, w2 = wr.drewN d) (fun x _ => s.size - (intOf x).toNat)
        case atStart => exact ⟨0, by omega, rfl, fun t ht => by omega, 0, rfl⟩
        case round =>
          obtain ⟨k, hk, rfl, hall, d, rfl⟩ := hrel
          obtain ⟨j, hj⟩ : ∃ j, j = i + k := ⟨_, rfl⟩
          have eik : (i : Int) + (k : Int) = (j : Int) := by omega
          have HJ := hid hj
          clear hj
          by_cases hkn : j < s.size
          · have hks : k < s.size := by omega
            have hks' : (k : Int) < (s.size : Int) := by omega
            have hkn' : (j : Int) < (s.size : Int) := by omega
            by_cases he : byt s k = byt s j
            · have heq : ((s[k].toNat : Int) == (s[j].toNat : Int)) = true := by rw [← byt_eq hks, ← byt_eq hkn, he]; simp
              have HA : Hid (∀ t, t < k + 1 → byt s t = byt s (i + t)) := by
                intro t ht
                by_cases e : t = k
                · subst e; rw [← HJ.out]; exact he
                · exact hall.out t (by omega)
              clear he
              go_wp2
              go_quiet (fail)
              go_wp2
              go_roundw
              case rel => exact ⟨k + 1, by omega, by go_num, HA, _, rfl⟩
              case measure => simp [intOf]; omega
            · have heq : ((s[k].toNat : Int) == (s[j].toNat : Int)) = false := by rw [← byt_eq hks, ← byt_eq hkn]; exact (byte_ne he).2
              have hz : (k : Int) = (Wm.zf (byt s) s.size i : Int) := congrArg Int.ofNat (Wm.zf_unique (by omega) hall.out fun _ => by rw [← HJ.out]; exact he)
              have R := hid (zrel_store hrow hbel hz)
              clear he hz hrow hbel
              by_cases hgt : b < j
              · have hg2 : decide (b < j) = true := by simp; omega
                go_wp2
                go_quiet (fail)
                go_wp2
                go_roundw
                case rel => exact ⟨i, j, i + 1, by omega, by omega, rfl, rfl, by go_num, by omega, by omega, fun t ht => hall.out t (by omega), by omega, (R.out _).1, (R.out _).2⟩
                case measure => simp [intOf]; omega
              · have hg2 : decide (b < j) = false := by simp; omega
                go_wp2
                go_quiet (fail)
                go_wp2
                go_roundw
                case rel => exact ⟨a, b, i + 1, by omega, by omega, rfl, rfl, by go_num, by omega, by omega, hab.out, by omega, (R.out _).1, (R.out _).2⟩
                case measure => simp [intOf]; omega
          · have hz : (k : Int) = (Wm.zf (byt s) s.size i : Int) := congrArg Int.ofNat (Wm.zf_unique (by omega) hall.out fun h => by omega)
            have R := hid (zrel_store hrow hbel hz)
            have hd0 : decide (j < s.size) = false := by simp; omega
            clear hz hrow hbel
            by_cases hgt : b < j
            · have hg2 : decide (b < j) = true := by simp; omega
              go_wp2
              go_quiet (fail)
              go_wp2
              go_roundw
              case rel => exact ⟨i, j, i + 1, by omega, by omega, rfl, rfl, by go_num, by omega, by omega, fun t ht => hall.out t (by omega), by omega, (R.out _).1, (R.out _).2⟩
              case measure => simp [intOf]; omega
            · omega
    · go_wp2
      go_ret
      refine ⟨_, _, rfl, fun k hk => ⟨_, _, rfl, hrow.lt, ?_⟩, hbel⟩
      rw [Nat.zero_add, hrow.cell hk, zfill_lt (by omega)]
theorem fronts_any (s : ByteArray) (w : World) (hs : s.size ≤ 200) :
    Calls Try.prog 66 #[.string s] w (RetInts s.size (fun k => (Wm.zf (byt s) s.size k : Int)) w) := by
  by_cases h0 : 0 < s.size
  · exact fronts_ok s w hs h0
  · have hz : s.size = 0 := by omega
    have hmk := run_make_row' (P := Try.prog) 22 3 (.int .i64 0) 8 Try.underlying22 Try.infoInt rfl .i64 .i64 s.size (by omega) (by omega) w
    have hne := no_bytes hz
    have HZ := hid hz
    have hb0 := bl_new w (.cells (madeCells #[.int .i64 0] s.size) 3)
    clear hz h0
    go_enter Try.func66, Try.ntmps66
    go_wp2
    go_ret
    refine ⟨_, _, rfl, ?_, hb0⟩
    rw [HZ.out]
    exact IRow.none_ _ _ _
theorem Fronts_ok (s : ByteArray) (w : World) (hs : s.size ≤ 200) :
    Calls Try.prog 35 #[.string s] w (RetIntsOk s.size (fun k => (Wm.zf (byt s) s.size k : Int)) w) := by
  go_enter Try.func35, Try.ntmps35
  go_wp2_with fail
  with_reducible refine (check_ok s _ hs).mono ?_
  rintro e w1 ⟨rfl, rfl⟩
  go_wp2_with fail
  with_reducible refine (fronts_any s _ hs).mono ?_
  rintro e w1 ⟨A, c, rfl, hrow, hbel⟩
  have HR := hid hrow
  clear hrow
  go_wp2
  go_ret2
  exact ⟨_, _, rfl, HR.out, hbel⟩
theorem Fronts_large (s : ByteArray) (w : World) (hs : 200 < s.size) :
    Calls Try.prog 35 #[.string s] w fun e w' => e = .returned (.tuple #[.slice none 0 0, .int .i64 2]) ∧ w = w' := by
  go_enter Try.func35, Try.ntmps35
  go_wp2_with fail
  with_reducible refine (check_large s _ hs).mono ?_
  rintro e w1 ⟨rfl, rfl⟩
  go_wp2
  go_ret2
  exact ⟨rfl, rfl⟩
end Go.Proofs.Ytcnfdmpggnhlgaa
