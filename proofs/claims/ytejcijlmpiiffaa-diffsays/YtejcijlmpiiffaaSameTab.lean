
/-
A table of numbers that the call makes (a slice of rows, each in a block of its own), and the contract of same.common: how long the longest common subsequences of all ends of two words are.
-/
import Derived.Test.YtejcijlmpiiffaaSameMath
import Derived.Test.YtejcijlmpiiffaaWordB
import Derived.Test.YtejcijlmpiiffaaLst
import Derived.Deep.RegionHeld3
namespace Go.Proofs.Ytejcijlmpiiffaa
open Go.RowKit

theorem Try.infoInts : (Try.prog.info? 45).map (fun i => (i.zero, i.size, i.bytes)) = some (some (.slice none 0 0), 1, 24) := by kernel_rfl
/-- The outer row when c of the rows are made. -/
def topV (B M c : Nat) : Nat → Value := fun j => if j < c then .slice (some ⟨B + 1 + j, 0, none⟩) M M else .slice none 0 0
theorem topV_lt {B M c j : Nat} (h : j < c) : topV B M c j = .slice (some ⟨B + 1 + j, 0, none⟩) M M := if_pos h
/-- c rows of a table of N rows are made, at B and behind it; the number at (i, j) is f i j. -/
structure Tab (w wr : World) (B N M c : Nat) (f : Nat → Nat → Nat) : Prop where
  below : Below B w wr
  base : wr.heap.size = B + 1 + c
  top : wr.rowIs B 45 N (topV B M c)
  rows : ∀ i, i < c → wr.rowIs (B + 1 + i) 3 M (fun j => .int .i64 (f i j : Nat))
theorem Tab.congr {w wr : World} {B N M c : Nat} {f g : Nat → Nat → Nat} (h : Tab w wr B N M c f) (e : ∀ i j, i < c → j < M → f i j = g i j) : Tab w wr B N M c g :=
  ⟨h.below, h.base, h.top, fun i hi => (h.rows i hi).congr fun j hj => by rw [e i j hi hj]⟩
theorem Tab.drewN {w wr : World} {B N M c : Nat} {f : Nat → Nat → Nat} (h : Tab w wr B N M c f) (d : Nat) : Tab w (wr.drewN d) B N M c f := ⟨bl_drewN h.below d, h.base, h.top, h.rows⟩
theorem Tab.start (w : World) (N M : Nat) : Tab w (w.alloc (.cells (madeCells #[.slice none 0 0] N) 45)) w.heap.size N M 0 (fun _ _ => 0) :=
  ⟨bl_new w _, by simp, (World.rowIs_made w _ N 45).congr fun j _ => by simp [topV], fun i hi => absurd hi (Nat.not_lt_zero _)⟩
/-- 't[c] = make([]int, M)'. -/
theorem Tab.row {w wr : World} {B N M c : Nat} (h : Tab w wr B N M c (fun _ _ => 0)) (d : Nat) :
    Tab w (((wr.alloc (.cells (madeCells #[.int .i64 0] M) 3)).drewN d).setCell ⟨B, c, none⟩ (.slice (some ⟨B + 1 + c, 0, none⟩) M M)) B N M (c + 1) (fun _ _ => 0) := by
  have hnew := World.rowIs_made wr (.int .i64 0) M 3
  rw [h.base] at hnew
  have hsz := h.base
  have htop : ((wr.alloc (.cells (madeCells #[.int .i64 0] M) 3)).drewN d).rowIs B 45 N (topV B M c) := h.top.alloc _
  refine ⟨(bl_drewN (h.below.alloc (by omega) _) d).setCell (Nat.le_refl _) _, by simp [h.base]; omega, (htop.set c _).congr fun j _ => ?_, fun i hi => ?_⟩
  · unfold topV
    by_cases e : j = c
    · subst e; rw [if_pos rfl, if_pos (by omega)]
    · rw [if_neg e]
      by_cases hlt : j < c
      · rw [if_pos hlt, if_pos (by omega)]
      · rw [if_neg hlt, if_neg (by omega)]
  · by_cases e : i = c
    · subst e
      exact World.rowIs.setOther (w := (wr.alloc (.cells (madeCells #[.int .i64 0] M) 3)).drewN d) hnew (by show B + 1 + i ≠ B; omega) _
    · exact World.rowIs.setOther (w := (wr.alloc (.cells (madeCells #[.int .i64 0] M) 3)).drewN d) ((h.rows i (by omega)).alloc _) (by show B + 1 + i ≠ B; omega) _
/-- 't[i][j] = v'. -/
theorem Tab.store {w wr : World} {B N M c i j v : Nat} {f g : Nat → Nat → Nat} (h : Tab w wr B N M c f) (hi : i < c) (hg : ∀ p q, p < c → q < M → g p q = if p = i ∧ q = j then v else f p q) (d : Nat) :
    Tab w ((wr.drewN d).setCell ⟨B + 1 + i, j, none⟩ (.int .i64 (v : Nat))) B N M c g := by
  refine ⟨(bl_drewN h.below d).setCell (by show B ≤ B + 1 + i; omega) _, by simp [h.base], World.rowIs.setOther (w := wr.drewN d) h.top (by show B ≠ B + 1 + i; omega) _, fun p hp => ?_⟩
  by_cases e : p = i
  · subst e
    refine (World.rowIs.set (w := wr.drewN d) (h.rows p hp) j _).congr fun q hq => ?_
    rw [hg p q hp hq]
    by_cases e2 : q = j
    · subst e2; rw [if_pos rfl, if_pos ⟨rfl, rfl⟩]
    · rw [if_neg e2, if_neg fun k => e2 k.2]
  · refine (World.rowIs.setOther (w := wr.drewN d) (h.rows p hp) (by show B + 1 + p ≠ B + 1 + i; omega) _).congr fun q hq => ?_
    rw [hg p q hp hq, if_neg fun k => e k.1]
/-- The row at i, and the number at (i, j). -/
theorem Tab.rowAt {w wr : World} {B N M c i : Nat} {f : Nat → Nat → Nat} (h : Tab w wr B N M c f) (hi : i < c) (hN : i < N) : wr.cell? ⟨B, i, none⟩ = some (.slice (some ⟨B + 1 + i, 0, none⟩) M M) := by
  rw [h.top.cell hN, topV_lt hi]
theorem Tab.at_ {w wr : World} {B N M c i j : Nat} {f : Nat → Nat → Nat} (h : Tab w wr B N M c f) (hi : i < c) (hj : j < M) : wr.cell? ⟨B + 1 + i, j, none⟩ = some (.int .i64 (f i j : Nat)) := (h.rows i hi).cell hj

/-- Rows from i on are filled; and of row i all from j on. -/
def fillR (a b : List UInt8) (i p q : Nat) : Nat := if i ≤ p then Sa.rest a b p q else 0
def fillC (a b : List UInt8) (i j p q : Nat) : Nat := if i < p ∨ p = i ∧ j ≤ q then Sa.rest a b p q else 0
theorem fillR_start (a b : List UInt8) {p q : Nat} (_ : p < a.length + 1) : fillR a b a.length p q = 0 := by
  unfold fillR
  by_cases h : a.length ≤ p
  · rw [if_pos h, Sa.rest_end (.inl h)]
  · rw [if_neg h]
theorem fillC_start (a b : List UInt8) {i p q : Nat} (hq : q < b.length + 1) : fillC a b i b.length p q = fillR a b (i + 1) p q := by
  unfold fillC fillR
  by_cases h : i < p
  · rw [if_pos (.inl h), if_pos (by omega)]
  · rw [if_neg (c := i + 1 ≤ p) (by omega)]
    by_cases h2 : p = i ∧ b.length ≤ q
    · rw [if_pos (.inr h2), Sa.rest_end (.inr h2.2)]
    · rw [if_neg (by omega)]
theorem fillC_end (a b : List UInt8) (i p q : Nat) : fillC a b i 0 p q = fillR a b i p q := by
  unfold fillC fillR
  by_cases h : i ≤ p
  · rw [if_pos h, if_pos (by omega)]
  · rw [if_neg h, if_neg (by omega)]
theorem fillC_step (a b : List UInt8) (i j p q : Nat) : fillC a b i j p q = if p = i ∧ q = j then Sa.rest a b i j else fillC a b i (j + 1) p q := by
  unfold fillC
  by_cases h : p = i ∧ q = j
  · obtain ⟨rfl, rfl⟩ := h
    rw [if_pos (c := p = p ∧ q = q) ⟨rfl, rfl⟩, if_pos (Or.inr ⟨rfl, Nat.le_refl _⟩)]
  · rw [if_neg h]
    by_cases h2 : i < p ∨ p = i ∧ j ≤ q
    · rw [if_pos h2, if_pos (by omega)]
    · rw [if_neg h2, if_neg (by omega)]
theorem fillC_row (a b : List UInt8) {i j p q : Nat} (h : i < p) : fillC a b i j p q = Sa.rest a b p q := if_pos (.inl h)
theorem fillC_col (a b : List UInt8) {i j q : Nat} (h : j ≤ q) : fillC a b i j i q = Sa.rest a b i q := if_pos (.inr ⟨rfl, h⟩)
theorem fillR_all (a b : List UInt8) (p q : Nat) : fillR a b 0 p q = Sa.rest a b p q := if_pos (Nat.zero_le _)

set_option maxHeartbeats 2000000 in
theorem common_ok (a b : ByteArray) (w : World) (ha : a.size ≤ 200) (hb : b.size ≤ 200) :
    Calls Try.prog 39 #[.string a, .string b] w fun e w' => e = .returned (.slice (some ⟨w.heap.size, 0, none⟩) (a.size + 1) (a.size + 1)) ∧ Tab w w' w.heap.size (a.size + 1) (b.size + 1) (a.size + 1) (Sa.rest (lst a) (lst b)) := by
  obtain ⟨N, hN⟩ : ∃ N, N = a.size + 1 := ⟨_, rfl⟩
  obtain ⟨M, hM⟩ : ∃ M, M = b.size + 1 := ⟨_, rfl⟩
  have eN : (a.size : Int) + 1 = (N : Int) := by omega
  have eM : (b.size : Int) + 1 = (M : Int) := by omega
  have hwN : IntKind.i64.wrap (N : Int) = (N : Int) := IntWalk.i64_in _ (by omega)
  have hwM : IntKind.i64.wrap (M : Int) = (M : Int) := IntWalk.i64_in _ (by omega)
  have hN5 : N ≤ 201 := by omega
  have hM5 : M ≤ 201 := by omega
  rw [← hN, ← hM]
  have HN := hid hN
  have HM := hid hM
  clear hN hM
  have hmk := run_make_row' (P := Try.prog) 68 45 (.slice none 0 0) 24 Try.underlying68 Try.infoInts rfl .i64 .i64 N (by omega) (by omega) w
  have hT0 := hid (Tab.start w N M)
  generalize w.alloc (.cells (madeCells #[.slice none 0 0] N) 45) = w0 at hmk hT0
  go_enter Try.func39, Try.ntmps39
  go_wp2
  clear hmk
  go_loopw [15] (fun x wr => ∃ i : Nat, i ≤ N ∧ x = .int .i64 (i : Int) ∧ Hid (Tab w wr w.heap.size N M i (fun _ _ => 0))) (fun x _ => N - (intOf x).toNat)
  case atStart => exact ⟨0, by omega, rfl, hT0⟩
  case round =>
    clear hT0
    obtain ⟨i, hi, rfl, HT⟩ := hrel
    by_cases hlt : i < N
    · have hlt' : (i : Int) < (N : Int) := by omega
      have hmk := run_make_row' (P := Try.prog) 45 3 (.int .i64 0) 8 Try.underlying45 Try.infoInt rfl .i64 .i64 M (by omega) (by omega)
      have hsz := HT.out.base
      have hca : ∀ o, (wr.alloc o).cell? ⟨w.heap.size, i, none⟩ = some (topV w.heap.size M i i) := fun o => (HT.out.top.alloc o).cell hlt
      have hfa : ∀ o, (wr.alloc o).frozen? ⟨w.heap.size, i, none⟩ = false := fun o => (HT.out.top.alloc o).frozen i
      have HR := hid HT.out.row
      clear HT
      go_wp2
      go_roundw
      case rel => exact ⟨i + 1, by omega, by go_num, hid (HR.out 0)⟩
      case measure => simp [intOf]; omega
    · have HT' : Hid (Tab w wr w.heap.size N M N (fillR (lst a) (lst b) a.size)) := by
        have e : i = N := by omega
        rw [e] at HT
        exact HT.out.congr fun p q hp _ => by rw [show a.size = (lst a).length from (lst_len a).symm, fillR_start (lst a) (lst b) (by rw [lst_len, ← HN.out]; exact hp)]
      have hd : decide ((i : Int) < (N : Int)) = false := decide_eq_false (by omega)
      clear HT
      go_wp2
      go_loopw [7] (fun x wr => ∃ i : Nat, ∃ z : Int, z + 1 = (i : Int) ∧ i ≤ a.size ∧ x = .int .i64 z ∧ Hid (Tab w wr w.heap.size N M N (fillR (lst a) (lst b) i))) (fun x _ => (intOf x + 1).toNat)
      case atStart => exact ⟨a.size, _, by omega, by omega, rfl, HT'⟩
      case round =>
        clear HT'
        obtain ⟨i1, z, hz, hi1, rfl, HT⟩ := hrel
        by_cases hz0 : 0 ≤ z
        · obtain ⟨i, rfl⟩ : ∃ i : Nat, z = (i : Int) := ⟨z.toNat, by omega⟩
          obtain rfl : i1 = i + 1 := by omega
          have hia : i < a.size := by omega
          have hia' : (i : Int) < (a.size : Int) := by omega
          clear hz
          have HT2 : Hid (Tab w wr w.heap.size N M N (fillC (lst a) (lst b) i b.size)) := HT.out.congr fun p q _ hq => by rw [show b.size = (lst b).length from (lst_len b).symm, fillC_start (lst a) (lst b) (by rw [lst_len, ← HM.out]; exact hq)]
          clear HT
          go_wp2
          go_loopw [8] (fun x wr => ∃ j : Nat, ∃ z : Int, z + 1 = (j : Int) ∧ j ≤ b.size ∧ x = .int .i64 z ∧ Hid (Tab w wr w.heap.size N M N (fillC (lst a) (lst b) i j))) (fun x _ => (intOf x + 1).toNat)
          case atStart => exact ⟨b.size, _, by omega, by omega, rfl, HT2⟩
          case round =>
            clear HT2
            obtain ⟨j1, z, hz, hj1, rfl, HT⟩ := hrel
            by_cases hz0 : 0 ≤ z
            · obtain ⟨j, rfl⟩ : ∃ j : Nat, z = (j : Int) := ⟨z.toNat, by omega⟩
              obtain rfl : j1 = j + 1 := by omega
              have hjb : j < b.size := by omega
              have hjb' : (j : Int) < (b.size : Int) := by omega
              clear hz
              obtain ⟨i2, hi2⟩ : ∃ i2, i2 = i + 1 := ⟨_, rfl⟩
              obtain ⟨j2, hj2⟩ : ∃ j2, j2 = j + 1 := ⟨_, rfl⟩
              have ei2 : (i : Int) + 1 = (i2 : Int) := by omega
              have ej2 : (j : Int) + 1 = (j2 : Int) := by omega
              have hwi2 : IntKind.i64.wrap (i2 : Int) = (i2 : Int) := IntWalk.i64_in _ (by omega)
              have hwj2 : IntKind.i64.wrap (j2 : Int) = (j2 : Int) := IntWalk.i64_in _ (by omega)
              have hiN : i < N := by have := HN.out; omega
              have hi2N : i2 < N := by have := HN.out; omega
              have hjM : j < M := by have := HM.out; omega
              have hj2M : j2 < M := by have := HM.out; omega
              have hiN' : (i : Int) < (N : Int) := by omega
              have hi2N' : (i2 : Int) < (N : Int) := by omega
              have hjM' : (j : Int) < (M : Int) := by omega
              have hj2M' : (j2 : Int) < (M : Int) := by omega
              have i20 : (0 : Int) ≤ (i2 : Int) := by omega
              have j20 : (0 : Int) ≤ (j2 : Int) := by omega
              have c1 := HT.out.rowAt hiN hiN
              have c2 := HT.out.rowAt hi2N hi2N
              have hci : wr.cell? ⟨w.heap.size + 1 + i, j, none⟩ = some (.int .i64 (fillC (lst a) (lst b) i (j + 1) i j : Nat)) := HT.out.at_ hiN hjM
              have hfi : wr.frozen? ⟨w.heap.size + 1 + i, j, none⟩ = false := (HT.out.rows i hiN).frozen j
              by_cases he : byt a i = byt b j
              · have heq : ((a[i].toNat : Int) == (b[j].toNat : Int)) = true := by rw [← byt_eq hia, ← byt_eq hjb, he]; simp
                obtain ⟨v, hv⟩ : ∃ v, v = Sa.rest (lst a) (lst b) i2 j2 := ⟨_, rfl⟩
                have c3 := HT.out.at_ hi2N hj2M
                rw [fillC_row (lst a) (lst b) (show i < i2 by omega), ← hv] at c3
                have hv2 : v + 1 = Sa.rest (lst a) (lst b) i j := by rw [hv, hi2, hj2]; exact (Sa.rest_same (a := lst a) (b := lst b) (by rw [lst_len]; exact hia) (by rw [lst_len]; exact hjb) he).symm
                have hvb : v ≤ 200 := by rw [hv]; have := Sa.rest_le (lst a) (lst b) i2 j2; rw [lst_len] at this; omega
                obtain ⟨v2, hv3⟩ : ∃ v2, v2 = v + 1 := ⟨_, rfl⟩
                have ev2 : (v : Int) + 1 = (v2 : Int) := by omega
                have hwv2 : IntKind.i64.wrap (v2 : Int) = (v2 : Int) := IntWalk.i64_in _ (by omega)
                have R := hid (HT.out.store (i := i) (j := j) (v := v2) (g := fillC (lst a) (lst b) i j) hiN (fun p q _ _ => by rw [fillC_step, hv3, hv2]))
                have K1 : ∀ d, _ := fun d => (R.out d).rowAt hiN hiN
                have K2 : ∀ d, _ := fun d => (R.out d).rowAt hi2N hi2N
                have K3 : ∀ d, _ := fun d => (R.out d).at_ hi2N hj2M
                rw [fillC_row (lst a) (lst b) (show i < i2 by omega), ← hv] at K3
                clear HT he hv hv2 hv3 hi2 hj2
                go_wp2
                go_quiet (fail)
                go_wp2
                go_region_held3 (fun W => W.cell? ⟨w.heap.size, i, none⟩ = some (.slice (some ⟨w.heap.size + 1 + i, 0, none⟩) M M) ∧ W.cell? ⟨w.heap.size, i2, none⟩ = some (.slice (some ⟨w.heap.size + 1 + i2, 0, none⟩) M M) ∧ W.cell? ⟨w.heap.size + 1 + i2, j2, none⟩ = some (.int .i64 (v : Int))) (first | exact ⟨c1, c2, c3⟩ | exact ⟨K1 _, K2 _, K3 _⟩) (fail)
                go_wp2
                go_roundw
                case rel => exact ⟨j, _, by omega, by omega, rfl, hid (R.out _)⟩
                case measure => simp [intOf]
              · have heq : ((a[i].toNat : Int) == (b[j].toNat : Int)) = false := by rw [← byt_eq hia, ← byt_eq hjb]; exact (byte_ne he).2
                obtain ⟨u, hu⟩ : ∃ u, u = Sa.rest (lst a) (lst b) i2 j := ⟨_, rfl⟩
                obtain ⟨v, hv⟩ : ∃ v, v = Sa.rest (lst a) (lst b) i j2 := ⟨_, rfl⟩
                have c3 := HT.out.at_ hi2N hjM
                rw [fillC_row (lst a) (lst b) (show i < i2 by omega), ← hu] at c3
                have c4 := HT.out.at_ hiN hj2M
                rw [fillC_col (lst a) (lst b) (show j + 1 ≤ j2 by omega), ← hv] at c4
                obtain ⟨v2, hv2⟩ : ∃ v2, v2 = Sa.rest (lst a) (lst b) i j := ⟨_, rfl⟩
                have hv3 : v2 = max u v := by rw [hu, hv, hv2, hi2, hj2]; exact Sa.rest_unlike (a := lst a) (b := lst b) (by rw [lst_len]; exact hia) (by rw [lst_len]; exact hjb) he
                have hmx : (if u < v then (v : Int) else (u : Int)) = (v2 : Int) := by
                  rw [hv3]
                  by_cases h : u < v
                  · rw [if_pos h]; omega
                  · rw [if_neg h]; omega
                have R := hid (HT.out.store (i := i) (j := j) (v := v2) (g := fillC (lst a) (lst b) i j) hiN (fun p q _ _ => by rw [fillC_step, hv2]))
                have K1 : ∀ d, _ := fun d => (R.out d).rowAt hiN hiN
                have K2 : ∀ d, _ := fun d => (R.out d).rowAt hi2N hi2N
                have K3 : ∀ d, _ := fun d => (R.out d).at_ hi2N hjM
                rw [fillC_row (lst a) (lst b) (show i < i2 by omega), ← hu] at K3
                have K4 : ∀ d, _ := fun d => (R.out d).at_ hiN hj2M
                rw [fillC_col (lst a) (lst b) (show j ≤ j2 by omega), ← hv] at K4
                clear HT he hu hv hv2 hv3 hi2 hj2
                go_wp2
                go_quiet (fail)
                go_wp2
                go_region_held3 (fun W => W.cell? ⟨w.heap.size, i, none⟩ = some (.slice (some ⟨w.heap.size + 1 + i, 0, none⟩) M M) ∧ W.cell? ⟨w.heap.size, i2, none⟩ = some (.slice (some ⟨w.heap.size + 1 + i2, 0, none⟩) M M) ∧ W.cell? ⟨w.heap.size + 1 + i2, j, none⟩ = some (.int .i64 (u : Int)) ∧ W.cell? ⟨w.heap.size + 1 + i, j2, none⟩ = some (.int .i64 (v : Int))) (first | exact ⟨c1, c2, c3, c4⟩ | exact ⟨K1 _, K2 _, K3 _, K4 _⟩) (fail)
                go_wp2
                go_roundw
                case rel => exact ⟨j, _, by omega, by omega, rfl, hid (R.out _)⟩
                case measure => simp [intOf]
            · obtain rfl : z = -1 := by omega
              obtain rfl : 0 = j1 := by omega
              have R : Hid (Tab w wr w.heap.size N M N (fillR (lst a) (lst b) i)) := HT.out.congr fun p q _ _ => fillC_end _ _ _ _ _
              clear HT
              go_wp2
              go_roundw
              case rel => exact ⟨i, _, by omega, by omega, rfl, R⟩
              case measure => simp [intOf]
        · obtain rfl : z = -1 := by omega
          obtain rfl : 0 = i1 := by omega
          have R := HT.out.congr fun p q _ _ => fillR_all (lst a) (lst b) p q
          have R := hid R
          clear HT
          go_wp2
          go_ret
          exact ⟨rfl, R.out⟩
end Go.Proofs.Ytejcijlmpiiffaa
