/-
The contracts of word.Borders and seek.Fronts once more: the slice is new memory, all its places.
-/
import Derived.Test.YtcnfdmpggnhlgaaFronts
namespace Go.Proofs.Ytcnfdmpggnhlgaa
open Go.RowKit

/-- A slice of n numbers, the whole of a new block. -/
def RetRow (n : Nat) (g : Nat → Int) (w : World) (e : Ending) (w' : World) : Prop :=
  e = .returned (.slice (some ⟨w.heap.size, 0, none⟩) n n) ∧ w'.rowIs w.heap.size 3 n (fun k => .int .i64 (g k)) ∧ Below w.heap.size w w'
/-- The same, and no error. -/
def RowOk2 (n : Nat) (g : Nat → Int) (w : World) (e : Ending) (w' : World) : Prop :=
  ∃ B, e = .returned (.tuple #[.slice (some ⟨B, 0, none⟩) n n, .int .i64 0]) ∧ w.heap.size ≤ B ∧ w'.rowIs B 3 n (fun k => .int .i64 (g k)) ∧ Below w.heap.size w w'
set_option maxHeartbeats 400000 in
theorem borders_row (s : ByteArray) (w : World) (hs : s.size ≤ 200) :
    Calls Try.prog 65 #[.string s] w (RetRow s.size (fun k => (Wm.lb (byt s) (k + 1) : Int)) w) := by
  have hmk := run_make_row' (P := Try.prog) 22 3 (.int .i64 0) 8 Try.underlying22 Try.infoInt rfl .i64 .i64 s.size (by omega) (by omega)
  go_enter Try.func65, Try.ntmps65
  go_wp2
  clear hmk
  go_loopw [4] (fun v wr => ∃ i : Nat, 1 ≤ i ∧ i ≤ max 1 s.size ∧ v = .int .i64 i ∧ wr.rowIs w.heap.size 3 s.size (fun j => .int .i64 (bfill s i j)) ∧ Below w.heap.size w wr)
    (fun v _ => max 1 s.size - (intOf v).toNat)
  case atStart =>
    exact ⟨1, Nat.le_refl _, by omega, rfl, (World.rowIs_made w _ s.size _).congr fun j _ => by rw [bfill_one], (Below.refl _ _).alloc (Nat.le_refl _) _⟩
  case round =>
    obtain ⟨i, hi1, hi2, rfl, hrow, hbel⟩ := hrel
    by_cases hlt : i < s.size
    · have hz := hrow.lt
      have hcell : wr.cell? ⟨w.heap.size, i - 1, none⟩ = some (.int .i64 (Wm.lb (byt s) i : Int)) := by
        rw [hrow.cell (i := i - 1) (by omega), bfill_lt (by omega), show i - 1 + 1 = i by omega]
      have hroom := hrow.frozen i
      have hci : wr.cell? ⟨w.heap.size, i, none⟩ = some (.int .i64 (bfill s i i)) := hrow.cell hlt
      go_wp2
      clear hcell
      go_loopw [5] (fun v w2 => ∃ k : Nat, Hid (Wm.Kmp (byt s) i k) ∧ k < i ∧ v = .int .i64 k ∧ ∃ d, w2 = wr.drewN d) (fun v _ => (intOf v).toNat)
      case atStart => exact ⟨_, Wm.kmp_start _ (by omega), Wm.lb_lt _ (by omega), rfl, 0, rfl⟩
      case round =>
        obtain ⟨k, hkmp, hki, rfl, d, rfl⟩ := hrel
        have hks : k < s.size := by omega
        have hks' : (k : Int) < (s.size : Int) := by omega
        have hlt' : (i : Int) < (s.size : Int) := by omega
        by_cases he : byt s k = byt s i
        · have hne : ((s[k].toNat : Int) != (s[i].toNat : Int)) = false := by rw [← byt_eq hks, ← byt_eq hlt, he]; simp
          have heq : ((s[k].toNat : Int) == (s[i].toNat : Int)) = true := by rw [← byt_eq hks, ← byt_eq hlt, he]; simp
          have R := rel_store (v := (k : Int) + 1) hrow hbel (by rw [Wm.kmp_hit hkmp.out he]; rfl)
          have HR := hid R
          clear R he hrow hbel
          by_cases hk0 : 0 < k
          · go_wp2
            go_quiet (fail)
            go_wp2
            go_quiet (fail)
            go_wp2
            go_roundw
            case rel => exact ⟨i + 1, by omega, by omega, by go_num, (HR.out _).1, (HR.out _).2⟩
            case measure => simp [intOf]; omega
          · have hd0 : decide ((0 : Int) < (k : Int)) = false := by simp; omega
            go_wp2
            go_quiet (fail)
            go_wp2
            go_quiet (fail)
            go_wp2
            go_roundw
            case rel => exact ⟨i + 1, by omega, by omega, by go_num, (HR.out _).1, (HR.out _).2⟩
            case measure => simp [intOf]; omega
        · have hne : ((s[k].toNat : Int) != (s[i].toNat : Int)) = true := by rw [← byt_eq hks, ← byt_eq hlt]; exact (byte_ne he).1
          have heq : ((s[k].toNat : Int) == (s[i].toNat : Int)) = false := by rw [← byt_eq hks, ← byt_eq hlt]; exact (byte_ne he).2
          by_cases hk0 : 0 < k
          · have hcell : wr.cell? ⟨w.heap.size, k - 1, none⟩ = some (.int .i64 (Wm.lb (byt s) k : Int)) := by
              rw [hrow.cell (i := k - 1) (by omega), bfill_lt (by omega), show k - 1 + 1 = k by omega]
            have HK := hid (Wm.kmp_down hkmp.out hk0 he)
            have hl := Wm.lb_lt (byt s) hk0
            clear he
            go_wp2
            go_quiet (fail)
            go_wp2
            go_roundw
            case rel => exact ⟨_, HK.out, by omega, rfl, _, rfl⟩
            case measure => simp [intOf]; omega
          · have hd0 : decide ((0 : Int) < (k : Int)) = false := by simp; omega
            have R := rel_store (v := (k : Int)) hrow hbel (by
              obtain rfl : k = 0 := by omega
              rw [Wm.kmp_miss hkmp.out he])
            have HR := hid R
            clear R he hrow hbel
            go_wp2
            go_quiet (fail)
            go_wp2
            go_quiet (fail)
            go_wp2
            go_roundw
            case rel => exact ⟨i + 1, by omega, by omega, by go_num, (HR.out _).1, (HR.out _).2⟩
            case measure => simp [intOf]; omega
    · go_wp2
      go_ret
      refine ⟨rfl, hrow.congr fun k hk => ?_, hbel⟩
      rw [bfill_lt (by omega)]
set_option maxHeartbeats 400000 in
theorem fronts_row_ok (s : ByteArray) (w : World) (hs : s.size ≤ 200) (h0 : 0 < s.size) :
    Calls Try.prog 66 #[.string s] w (RetRow s.size (fun k => (Wm.zf (byt s) s.size k : Int)) w) := by
  have hmk := run_make_row' (P := Try.prog) 22 3 (.int .i64 0) 8 Try.underlying22 Try.infoInt rfl .i64 .i64 s.size (by omega) (by omega) w
  have hne := some_bytes h0
  have hmade := World.rowIs_made w (.int .i64 0) s.size 3
  have hb0 := bl_new w (.cells (madeCells #[.int .i64 0] s.size) 3)
  generalize w.alloc (.cells (madeCells #[.int .i64 0] s.size) 3) = w0 at hmk hmade hb0
  have hroom := hmade.frozen 0
  have hc0 := hmade.cell h0
  have R0 := hid (zrel_store (s := s) (i := 0) (v := (s.size : Int)) (hmade.congr fun j _ => by unfold zfill; rfl) hb0 (by rw [Wm.zf_zero]) 0)
  clear hmade hb0
  go_enter Try.func66, Try.ntmps66
  go_wp2
  go_loopw [4, 5, 6] (fun x y z wr => ∃ a b i : Nat, 1 ≤ i ∧ i ≤ s.size ∧ x = .int .i64 a ∧ y = .int .i64 b ∧ z = .int .i64 i ∧ a < i ∧ b ≤ s.size ∧ Hid (∀ t, a + t < b → byt s t = byt s (a + t)) ∧ (i < b → 1 ≤ a) ∧ wr.rowIs w.heap.size 3 s.size (fun j => .int .i64 (zfill s i j)) ∧ Below w.heap.size w wr)
    (fun _ _ z _ => s.size - (intOf z).toNat)
  case atStart => exact ⟨0, 0, 1, by omega, by omega, rfl, rfl, rfl, by omega, by omega, fun t ht => by omega, fun h => by omega, R0.out.1, R0.out.2⟩
  case round =>
    clear hroom hc0 R0
    obtain ⟨a, b, i, hi1, hi2, rfl, rfl, rfl, hai, hbs, hab, hib, hrow, hbel⟩ := hrel
    by_cases hlt : i < s.size
    · have hlt' : (i : Int) < (s.size : Int) := by omega
      have hz := hrow.lt
      have hroom := hrow.frozen i
      have hci : wr.cell? ⟨w.heap.size, i, none⟩ = some (.int .i64 (zfill s i i)) := hrow.cell hlt
      by_cases hin : i < b
      · have ha1 := hib hin
        have hcell : wr.cell? ⟨w.heap.size, i - a, none⟩ = some (.int .i64 (Wm.zf (byt s) s.size (i - a) : Int)) := by
          rw [hrow.cell (i := i - a) (by omega), zfill_lt (by omega)]
        have hzs := Wm.zf_spec (byt s) s.size (i - a)
        obtain ⟨m, hm⟩ : ∃ m, m = Wm.zf (byt s) s.size (i - a) := ⟨_, rfl⟩
        rw [← hm] at hzs hcell
        have hm1 := hzs.1
        have HZ := hid hzs.2.1
        clear hzs hm
        have eia : (i : Int) - (a : Int) = ((i - a : Nat) : Int) := by omega
        have ebi : (b : Int) - (i : Int) = ((b - i : Nat) : Int) := by omega
        by_cases hmin : b - i ≤ m
        · go_wp2
          clear hcell
          go_loopw [7] (fun x w2 => ∃ k : Nat, i + k ≤ s.size ∧ x = .int .i64 k ∧ Hid (∀ t, t < k → byt s t = byt s (i + t)) ∧ ∃ d, w2 = wr.drewN d) (fun x _ => s.size - (intOf x).toNat)
          case atStart => exact ⟨b - i, by omega, rfl, fun t ht => by rw [HZ.out t (by omega), hab.out (i - a + t) (by omega), show a + (i - a + t) = i + t by omega], 0, rfl⟩
          case round =>
            obtain ⟨k, hk, rfl, hall, d, rfl⟩ := hrel
            obtain ⟨j, hj⟩ : ∃ j, j = i + k := ⟨_, rfl⟩
            have eik : (i : Int) + (k : Int) = (j : Int) := by omega
            have HJ := hid hj
            clear hj
            by_cases hkn : j < s.size
            · have hks : k < s.size := by omega
              have hks' : (k : Int) < (s.size : Int) := by omega
              have hkn' : (j : Int) < (s.size : Int) := by omega
              by_cases he : byt s k = byt s j
              · have heq : ((s[k].toNat : Int) == (s[j].toNat : Int)) = true := by rw [← byt_eq hks, ← byt_eq hkn, he]; simp
                have HA : Hid (∀ t, t < k + 1 → byt s t = byt s (i + t)) := by
                  intro t ht
                  by_cases e : t = k
                  · subst e; rw [← HJ.out]; exact he
                  · exact hall.out t (by omega)
                clear he
                go_wp2
                go_quiet (fail)
                go_wp2
                go_roundw
                case rel => exact ⟨k + 1, by omega, by go_num, HA, _, rfl⟩
                case measure => simp [intOf]; omega
              · have heq : ((s[k].toNat : Int) == (s[j].toNat : Int)) = false := by rw [← byt_eq hks, ← byt_eq hkn]; exact (byte_ne he).2
                have hz : (k : Int) = (Wm.zf (byt s) s.size i : Int) := congrArg Int.ofNat (Wm.zf_unique (by omega) hall.out fun _ => by rw [← HJ.out]; exact he)
                have R := hid (zrel_store hrow hbel hz)
                clear he hz hrow hbel
                by_cases hgt : b < j
                · have hg2 : decide (b < j) = true := by simp; omega
                  go_wp2
                  go_quiet (fail)
                  go_wp2
                  go_roundw
                  case rel => exact ⟨i, j, i + 1, by omega, by omega, rfl, rfl, by go_num, by omega, by omega, fun t ht => hall.out t (by omega), by omega, (R.out _).1, (R.out _).2⟩
                  case measure => simp [intOf]; omega
                · have hg2 : decide (b < j) = false := by simp; omega
                  go_wp2
                  go_quiet (fail)
                  go_wp2
                  go_roundw
                  case rel => exact ⟨a, b, i + 1, by omega, by omega, rfl, rfl, by go_num, by omega, by omega, hab.out, by omega, (R.out _).1, (R.out _).2⟩
                  case measure => simp [intOf]; omega
            · have hz : (k : Int) = (Wm.zf (byt s) s.size i : Int) := congrArg Int.ofNat (Wm.zf_unique (by omega) hall.out fun h => by omega)
              have R := hid (zrel_store hrow hbel hz)
              have hd0 : decide (j < s.size) = false := by simp; omega
              clear hz hrow hbel
              by_cases hgt : b < j
              · have hg2 : decide (b < j) = true := by simp; omega
                go_wp2
                go_quiet (fail)
                go_wp2
                go_roundw
                case rel => exact ⟨i, j, i + 1, by omega, by omega, rfl, rfl, by go_num, by omega, by omega, fun t ht => hall.out t (by omega), by omega, (R.out _).1, (R.out _).2⟩
                case measure => simp [intOf]; omega
              · have hg2 : decide (b < j) = false := by simp; omega
                go_wp2
                go_quiet (fail)
                go_wp2
                go_roundw
                case rel => exact ⟨a, b, i + 1, by omega, by omega, rfl, rfl, by go_num, by omega, by omega, hab.out, by omega, (R.out _).1, (R.out _).2⟩
                case measure => simp [intOf]; omega
        · go_wp2
          clear hcell
          go_loopw [7] (fun x w2 => ∃ k : Nat, i + k ≤ s.size ∧ x = .int .i64 k ∧ Hid (∀ t, t < k → byt s t = byt s (i + t)) ∧ ∃ d, w2 = wr.drewN d) (fun x _ => s.size - (intOf x).toNat)
          case atStart => exact ⟨m, by omega, rfl, fun t ht => by rw [HZ.out t (by omega), hab.out (i - a + t) (by omega), show a + (i - a + t) = i + t by omega], 0, rfl⟩
          case round =>
            obtain ⟨k, hk, rfl, hall, d, rfl⟩ := hrel
            obtain ⟨j, hj⟩ : ∃ j, j = i + k := ⟨_, rfl⟩
            have eik : (i : Int) + (k : Int) = (j : Int) := by omega
            have HJ := hid hj
            clear hj
            by_cases hkn : j < s.size
            · have hks : k < s.size := by omega
              have hks' : (k : Int) < (s.size : Int) := by omega
              have hkn' : (j : Int) < (s.size : Int) := by omega
              by_cases he : byt s k = byt s j
              · have heq : ((s[k].toNat : Int) == (s[j].toNat : Int)) = true := by rw [← byt_eq hks, ← byt_eq hkn, he]; simp
                have HA : Hid (∀ t, t < k + 1 → byt s t = byt s (i + t)) := by
                  intro t ht
                  by_cases e : t = k
                  · subst e; rw [← HJ.out]; exact he
                  · exact hall.out t (by omega)
                clear he
                go_wp2
                go_quiet (fail)
                go_wp2
                go_roundw
                case rel => exact ⟨k + 1, by omega, by go_num, HA, _, rfl⟩
                case measure => simp [intOf]; omega
              · have heq : ((s[k].toNat : Int) == (s[j].toNat : Int)) = false := by rw [← byt_eq hks, ← byt_eq hkn]; exact (byte_ne he).2
                have hz : (k : Int) = (Wm.zf (byt s) s.size i : Int) := congrArg Int.ofNat (Wm.zf_unique (by omega) hall.out fun _ => by rw [← HJ.out]; exact he)
                have R := hid (zrel_store hrow hbel hz)
                clear he hz hrow hbel
                by_cases hgt : b < j
                · have hg2 : decide (b < j) = true := by simp; omega
                  go_wp2
                  go_quiet (fail)
                  go_wp2
                  go_roundw
                  case rel => exact ⟨i, j, i + 1, by omega, by omega, rfl, rfl, by go_num, by omega, by omega, fun t ht => hall.out t (by omega), by omega, (R.out _).1, (R.out _).2⟩
                  case measure => simp [intOf]; omega
                · have hg2 : decide (b < j) = false := by simp; omega
                  go_wp2
                  go_quiet (fail)
                  go_wp2
                  go_roundw
                  case rel => exact ⟨a, b, i + 1, by omega, by omega, rfl, rfl, by go_num, by omega, by omega, hab.out, by omega, (R.out _).1, (R.out _).2⟩
                  case measure => simp [intOf]; omega
            · have hz : (k : Int) = (Wm.zf (byt s) s.size i : Int) := congrArg Int.ofNat (Wm.zf_unique (by omega) hall.out fun h => by omega)
              have R := hid (zrel_store hrow hbel hz)
              have hd0 : decide (j < s.size) = false := by simp; omega
              clear hz hrow hbel
              by_cases hgt : b < j
              · have hg2 : decide (b < j) = true := by simp; omega
                go_wp2
                go_quiet (fail)
                go_wp2
                go_roundw
                case rel => exact ⟨i, j, i + 1, by omega, by omega, rfl, rfl, by go_num, by omega, by omega, fun t ht => hall.out t (by omega), by omega, (R.out _).1, (R.out _).2⟩
                case measure => simp [intOf]; omega
              · have hg2 : decide (b < j) = false := by simp; omega
                go_wp2
                go_quiet (fail)
                go_wp2
                go_roundw
                case rel => exact ⟨a, b, i + 1, by omega, by omega, rfl, rfl, by go_num, by omega, by omega, hab.out, by omega, (R.out _).1, (R.out _).2⟩
                case measure => simp [intOf]; omega
      · go_wp2
        go_loopw [7] (fun x w2 => ∃ k : Nat, i + k ≤ s.size ∧ x = .int .i64 k ∧ Hid (∀ t, t < k → byt s t = byt s (i + t)) ∧ ∃ d, w2 = wr.drewN d) (fun x _ => s.size - (intOf x).toNat)
        case atStart => exact ⟨0, by omega, rfl, fun t ht => by omega, 0, rfl⟩
        case round =>
          obtain ⟨k, hk, rfl, hall, d, rfl⟩ := hrel
          obtain ⟨j, hj⟩ : ∃ j, j = i + k := ⟨_, rfl⟩
          have eik : (i : Int) + (k : Int) = (j : Int) := by omega
          have HJ := hid hj
          clear hj
          by_cases hkn : j < s.size
          · have hks : k < s.size := by omega
            have hks' : (k : Int) < (s.size : Int) := by omega
            have hkn' : (j : Int) < (s.size : Int) := by omega
            by_cases he : byt s k = byt s j
            · have heq : ((s[k].toNat : Int) == (s[j].toNat : Int)) = true := by rw [← byt_eq hks, ← byt_eq hkn, he]; simp
              have HA : Hid (∀ t, t < k + 1 → byt s t = byt s (i + t)) := by
                intro t ht
                by_cases e : t = k
                · subst e; rw [← HJ.out]; exact he
                · exact hall.out t (by omega)
              clear he
              go_wp2
              go_quiet (fail)
              go_wp2
              go_roundw
              case rel => exact ⟨k + 1, by omega, by go_num, HA, _, rfl⟩
              case measure => simp [intOf]; omega
            · have heq : ((s[k].toNat : Int) == (s[j].toNat : Int)) = false := by rw [← byt_eq hks, ← byt_eq hkn]; exact (byte_ne he).2
              have hz : (k : Int) = (Wm.zf (byt s) s.size i : Int) := congrArg Int.ofNat (Wm.zf_unique (by omega) hall.out fun _ => by rw [← HJ.out]; exact he)
              have R := hid (zrel_store hrow hbel hz)
              clear he hz hrow hbel
              by_cases hgt : b < j
              · have hg2 : decide (b < j) = true := by simp; omega
                go_wp2
                go_quiet (fail)
                go_wp2
                go_roundw
                case rel => exact ⟨i, j, i + 1, by omega, by omega, rfl, rfl, by go_num, by omega, by omega, fun t ht => hall.out t (by omega), by omega, (R.out _).1, (R.out _).2⟩
                case measure => simp [intOf]; omega
              · have hg2 : decide (b < j) = false := by simp; omega
                go_wp2
                go_quiet (fail)
                go_wp2
                go_roundw
                case rel => exact ⟨a, b, i + 1, by omega, by omega, rfl, rfl, by go_num, by omega, by omega, hab.out, by omega, (R.out _).1, (R.out _).2⟩
                case measure => simp [intOf]; omega
          · have hz : (k : Int) = (Wm.zf (byt s) s.size i : Int) := congrArg Int.ofNat (Wm.zf_unique (by omega) hall.out fun h => by omega)
            have R := hid (zrel_store hrow hbel hz)
            have hd0 : decide (j < s.size) = false := by simp; omega
            clear hz hrow hbel
            by_cases hgt : b < j
            · have hg2 : decide (b < j) = true := by simp; omega
              go_wp2
              go_quiet (fail)
              go_wp2
              go_roundw
              case rel => exact ⟨i, j, i + 1, by omega, by omega, rfl, rfl, by go_num, by omega, by omega, fun t ht => hall.out t (by omega), by omega, (R.out _).1, (R.out _).2⟩
              case measure => simp [intOf]; omega
            · omega
    · go_wp2
      go_ret
      refine ⟨rfl, hrow.congr fun k hk => ?_, hbel⟩
      rw [zfill_lt (by omega)]
theorem fronts_row (s : ByteArray) (w : World) (hs : s.size ≤ 200) :
    Calls Try.prog 66 #[.string s] w (RetRow s.size (fun k => (Wm.zf (byt s) s.size k : Int)) w) := by
  by_cases h0 : 0 < s.size
  · exact fronts_row_ok s w hs h0
  · have hz : s.size = 0 := by omega
    have hmk := run_make_row' (P := Try.prog) 22 3 (.int .i64 0) 8 Try.underlying22 Try.infoInt rfl .i64 .i64 s.size (by omega) (by omega) w
    have hne := no_bytes hz
    have HZ := hid hz
    have hb0 := bl_new w (.cells (madeCells #[.int .i64 0] s.size) 3)
    clear hz h0
    go_enter Try.func66, Try.ntmps66
    go_wp2
    go_ret
    exact ⟨rfl, (World.rowIs_made w (.int .i64 0) s.size 3).congr fun k hk => absurd hk (by have := HZ.out; omega), hb0⟩
theorem Borders_row (s : ByteArray) (w : World) (hs : s.size ≤ 200) : Calls Try.prog 34 #[.string s] w (RowOk2 s.size (fun k => (Wm.lb (byt s) (k + 1) : Int)) w) := by
  go_enter Try.func34, Try.ntmps34
  go_wp2_with fail
  with_reducible refine (check_ok s _ hs).mono ?_
  rintro e w1 ⟨rfl, rfl⟩
  go_wp2_with fail
  with_reducible refine (borders_row s _ hs).mono ?_
  rintro e w1 ⟨rfl, hrow, hbel⟩
  have HR := hid hrow
  clear hrow
  go_wp2
  go_ret2
  exact ⟨_, rfl, Nat.le_refl _, HR.out, hbel⟩
theorem Fronts_row (s : ByteArray) (w : World) (hs : s.size ≤ 200) : Calls Try.prog 35 #[.string s] w (RowOk2 s.size (fun k => (Wm.zf (byt s) s.size k : Int)) w) := by
  go_enter Try.func35, Try.ntmps35
  go_wp2_with fail
  with_reducible refine (check_ok s _ hs).mono ?_
  rintro e w1 ⟨rfl, rfl⟩
  go_wp2_with fail
  with_reducible refine (fronts_row s _ hs).mono ?_
  rintro e w1 ⟨rfl, hrow, hbel⟩
  have HR := hid hrow
  clear hrow
  go_wp2
  go_ret2
  exact ⟨_, rfl, Nat.le_refl _, HR.out, hbel⟩
end Go.Proofs.Ytcnfdmpggnhlgaa
