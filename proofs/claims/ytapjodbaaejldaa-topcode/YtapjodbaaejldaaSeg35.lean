/-
Several texts of this proof, one behind the other.
-/
import Derived.Test.YtapjodbaaejldaaBase
import Derived.Test.YtapjodbaaejldaaMathAll

/-
The contract of word.borders: the longest borders of all prefixes.
-/
namespace Go.Proofs.Ytapjodbaaejldaa
open Go.RowKit

/-- What word.borders has written when it is at i. -/
def bfill (s : ByteArray) (i j : Nat) : Int := if j < i then (Wm.lb (byt s) (j + 1) : Int) else 0
theorem bfill_one (s : ByteArray) (j : Nat) : bfill s 1 j = 0 := by
  unfold bfill
  split
  · obtain rfl : j = 0 := by omega
    rw [Wm.lb_one]; rfl
  · rfl
theorem bfill_lt {s : ByteArray} {i j : Nat} (h : j < i) : bfill s i j = (Wm.lb (byt s) (j + 1) : Int) := by unfold bfill; rw [if_pos h]
theorem bfill_succ (s : ByteArray) (i j : Nat) : bfill s (i + 1) j = if j = i then (Wm.lb (byt s) (i + 1) : Int) else bfill s i j := by
  unfold bfill
  by_cases h : j = i
  · subst h; simp
  · rw [if_neg h]
    by_cases h2 : j < i
    · rw [if_pos h2, if_pos (by omega)]
    · rw [if_neg h2, if_neg (by omega)]
theorem rel_store {w wr : World} {s : ByteArray} {B n i : Nat} {t : TypeId} {v : Int} (hrow : wr.rowIs B t n (fun j => .int .i64 (bfill s i j))) (hbel : Below B w wr) (hv : v = (Wm.lb (byt s) (i + 1) : Int)) :
    ∀ d, ((wr.drewN d).setCell ⟨B, i, none⟩ (.int .i64 v)).rowIs B t n (fun j => .int .i64 (bfill s (i + 1) j)) ∧ Below B w ((wr.drewN d).setCell ⟨B, i, none⟩ (.int .i64 v)) := by
  intro d
  refine ⟨(World.rowIs.set (w := wr.drewN d) hrow i _).congr fun j _ => ?_, (bl_drewN hbel d).setCell (Nat.le_refl _) _⟩
  rw [bfill_succ]
  by_cases h : j = i
  · rw [if_pos h, if_pos h, hv]
  · rw [if_neg h, if_neg h]
set_option maxHeartbeats 400000 in
theorem borders_any (s : ByteArray) (w : World) (hs : s.size ≤ 200) :
    Calls Try.prog 121 #[.string s] w (RetInts s.size (fun k => (Wm.lb (byt s) (k + 1) : Int)) w) := by
  have hmk := run_make_row' (P := Try.prog) 53 3 (.int .i64 0) 8 Try.underlying53 Try.infoInt rfl .i64 .i64 s.size (by omega) (by omega)
  go_enter Try.func121, Try.ntmps121
  go_wp2
  clear hmk
  go_loopw [4] (fun v wr => ∃ i : Nat, 1 ≤ i ∧ i ≤ max 1 s.size ∧ v = .int .i64 i ∧ wr.rowIs w.heap.size 3 s.size (fun j => .int .i64 (bfill s i j)) ∧ Below w.heap.size w wr)
    (fun v _ => max 1 s.size - (intOf v).toNat)
  case atStart =>
    exact ⟨1, Nat.le_refl _, by omega, rfl, (World.rowIs_made w _ s.size _).congr fun j _ => by rw [bfill_one], (Below.refl _ _).alloc (Nat.le_refl _) _⟩
  case round =>
    obtain ⟨i, hi1, hi2, rfl, hrow, hbel⟩ := hrel
    by_cases hlt : i < s.size
    · have hz := hrow.lt
      have hcell : wr.cell? ⟨w.heap.size, i - 1, none⟩ = some (.int .i64 (Wm.lb (byt s) i : Int)) := by
        rw [hrow.cell (i := i - 1) (by omega), bfill_lt (by omega), show i - 1 + 1 = i by omega]
      have hroom := hrow.frozen i
      have hci : wr.cell? ⟨w.heap.size, i, none⟩ = some (.int .i64 (bfill s i i)) := hrow.cell hlt
      go_wp2
      clear hcell
      go_loopw [5] (fun v w2 => ∃ k : Nat, Hid (Wm.Kmp (byt s) i k) ∧ k < i ∧ v = .int .i64 k ∧ ∃ d, w2 = wr.drewN d) (fun v _ => (intOf v).toNat)
      case atStart => exact ⟨_, Wm.kmp_start _ (by omega), Wm.lb_lt _ (by omega), rfl, 0, rfl⟩
      case round =>
        obtain ⟨k, hkmp, hki, rfl, d, rfl⟩ := hrel
        have hks : k < s.size := by omega
        have hks' : (k : Int) < (s.size : Int) := by omega
        have hlt' : (i : Int) < (s.size : Int) := by omega
        by_cases he : byt s k = byt s i
        · have hne : ((s[k].toNat : Int) != (s[i].toNat : Int)) = false := by rw [← byt_eq hks, ← byt_eq hlt, he]; simp
          have heq : ((s[k].toNat : Int) == (s[i].toNat : Int)) = true := by rw [← byt_eq hks, ← byt_eq hlt, he]; simp
          have R := rel_store (v := (k : Int) + 1) hrow hbel (by rw [Wm.kmp_hit hkmp.out he]; rfl)
          have HR := hid R
          clear R he hrow hbel
          by_cases hk0 : 0 < k
          · go_wp2
            go_quiet (fail)
            go_wp2
            go_quiet (fail)
            go_wp2
            go_roundw
            case rel => exact ⟨i + 1, by omega, by omega, by go_num, (HR.out _).1, (HR.out _).2⟩
            case measure => simp [intOf]; omega
          · have hd0 : decide ((0 : Int) < (k : Int)) = false := by simp; omega
            go_wp2
            go_quiet (fail)
            go_wp2
            go_quiet (fail)
            go_wp2
            go_roundw
            case rel => exact ⟨i + 1, by omega, by omega, by go_num, (HR.out _).1, (HR.out _).2⟩
            case measure => simp [intOf]; omega
        · have hne : ((s[k].toNat : Int) != (s[i].toNat : Int)) = true := by rw [← byt_eq hks, ← byt_eq hlt]; exact (byte_ne he).1
          have heq : ((s[k].toNat : Int) == (s[i].toNat : Int)) = false := by rw [← byt_eq hks, ← byt_eq hlt]; exact (byte_ne he).2
          by_cases hk0 : 0 < k
          · have hcell : wr.cell? ⟨w.heap.size, k - 1, none⟩ = some (.int .i64 (Wm.lb (byt s) k : Int)) := by
              rw [hrow.cell (i := k - 1) (by omega), bfill_lt (by omega), show k - 1 + 1 = k by omega]
            have HK := hid (Wm.kmp_down hkmp.out hk0 he)
            have hl := Wm.lb_lt (byt s) hk0
            clear he
            go_wp2
            go_quiet (fail)
            go_wp2
            go_roundw
            case rel => exact ⟨_, HK.out, by omega, rfl, _, rfl⟩
            case measure => simp [intOf]; omega
          · have hd0 : decide ((0 : Int) < (k : Int)) = false := by simp; omega
            have R := rel_store (v := (k : Int)) hrow hbel (by
              obtain rfl : k = 0 := by omega
              rw [Wm.kmp_miss hkmp.out he])
            have HR := hid R
            clear R he hrow hbel
            go_wp2
            go_quiet (fail)
            go_wp2
            go_quiet (fail)
            go_wp2
            go_roundw
            case rel => exact ⟨i + 1, by omega, by omega, by go_num, (HR.out _).1, (HR.out _).2⟩
            case measure => simp [intOf]; omega
    · go_wp2
      go_ret
      refine ⟨_, _, rfl, fun k hk => ⟨_, _, rfl, hrow.lt, ?_⟩, hbel⟩
      rw [Nat.zero_add, hrow.cell hk, bfill_lt (by omega)]
end Go.Proofs.Ytapjodbaaejldaa


/-
The contracts of word.Check and word.Borders.
-/
namespace Go.Proofs.Ytapjodbaaejldaa
open Go.RowKit

theorem check_ok (s : ByteArray) (w : World) (hs : s.size ≤ 200) : Calls Try.prog 69 #[.string s] w fun e w' => e = .returned (.int .i64 0) ∧ w = w' := by
  go_enter Try.func69, Try.ntmps69
  go_wp2
  go_ret
  exact ⟨rfl, rfl⟩
theorem check_large (s : ByteArray) (w : World) (hs : 200 < s.size) : Calls Try.prog 69 #[.string s] w fun e w' => e = .returned (.int .i64 2) ∧ w = w' := by
  go_enter Try.func69, Try.ntmps69
  go_wp2
  go_ret
  exact ⟨rfl, rfl⟩

/-- A slice of n numbers in new memory, and no error. -/
def RetIntsOk (n : Nat) (g : Nat → Int) (w : World) (e : Ending) (w' : World) : Prop :=
  ∃ A c, e = .returned (.tuple #[.slice A n c, .int .i64 0]) ∧ IRow w' A n g ∧ Below w.heap.size w w'

theorem Borders_ok (s : ByteArray) (w : World) (hs : s.size ≤ 200) :
    Calls Try.prog 87 #[.string s] w (RetIntsOk s.size (fun k => (Wm.lb (byt s) (k + 1) : Int)) w) := by
  go_enter Try.func87, Try.ntmps87
  go_wp2_with fail
  with_reducible refine (check_ok s _ hs).mono ?_
  rintro e w1 ⟨rfl, rfl⟩
  go_wp2_with fail
  with_reducible refine (borders_any s _ hs).mono ?_
  rintro e w1 ⟨A, c, rfl, hrow, hbel⟩
  have HR := hid hrow
  clear hrow
  go_wp2
  go_ret2
  exact ⟨_, _, rfl, HR.out, hbel⟩
theorem Borders_large (s : ByteArray) (w : World) (hs : 200 < s.size) :
    Calls Try.prog 87 #[.string s] w fun e w' => e = .returned (.tuple #[.slice none 0 0, .int .i64 2]) ∧ w = w' := by
  go_enter Try.func87, Try.ntmps87
  go_wp2_with fail
  with_reducible refine (check_large s _ hs).mono ?_
  rintro e w1 ⟨rfl, rfl⟩
  go_wp2
  go_ret2
  exact ⟨rfl, rfl⟩
end Go.Proofs.Ytapjodbaaejldaa

