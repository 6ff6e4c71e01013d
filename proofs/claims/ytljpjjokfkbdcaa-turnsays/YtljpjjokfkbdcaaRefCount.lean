/-
The contract of quillref.CountOf: the document's search from behind.
-/
import Derived.Test.YtljpjjokfkbdcaaTCount
import Derived.Deep.LoopGhost
namespace Go.Proofs.Ytljpjjokfkbdcaa
open Go.RowKit

theorem less1 (x y : Nat) (P K k : Nat) (p : ByteArray) (w : World) (hk : k < p.size) (hy : y = p[k].toNat) (h1 : w.cell? ⟨P, 0, none⟩ = some (.string p)) (h2 : w.cell? ⟨K, 0, none⟩ = some (.int .i64 (k : Int))) :
    Calls Try.prog 30 #[.int .u8 (x : Int), .pointer (some ⟨P, 0, none⟩), .pointer (some ⟨K, 0, none⟩)] w fun e w' => e = .returned (.bool (decide (x < y))) ∧ w = w' := by
  have hk' : (k : Int) < (p.size : Int) := by omega
  go_enter Try.func30, Try.ntmps30
  go_wp2
  go_ret
  exact ⟨ret_bool (by rw [hy]), rfl⟩
theorem same1 (x y : Nat) (P K k : Nat) (p : ByteArray) (w : World) (hk : k < p.size) (hy : y = p[k].toNat) (h1 : w.cell? ⟨P, 0, none⟩ = some (.string p)) (h2 : w.cell? ⟨K, 0, none⟩ = some (.int .i64 (k : Int))) :
    Calls Try.prog 31 #[.int .u8 (x : Int), .pointer (some ⟨P, 0, none⟩), .pointer (some ⟨K, 0, none⟩)] w fun e w' => e = .returned (.bool (decide (x = y))) ∧ w = w' := by
  have hk' : (k : Int) < (p.size : Int) := by omega
  have hb : ((x : Int) == (p[k].toNat : Int)) = decide (x = y) := by
    by_cases e : x = y
    · rw [decide_eq_true e, beq_iff_eq]; omega
    · rw [decide_eq_false e, beq_eq_false_iff_ne]; omega
  have HB := hid hb
  clear hb
  go_enter Try.func31, Try.ntmps31
  go_wp2
  go_ret
  exact ⟨ret_bool HB.out, rfl⟩
theorem cnt_next (P : Nat → Bool) (i : Nat) : Tm.cnt P (i + 1) = Tm.cnt P i + (P i).toNat := rfl
theorem count_less (s p : ByteArray) (y P K k : Nat) (w : World) (hs : s.size ≤ 1000) (hk : k < p.size) (hy : y = p[k].toNat) (h1 : w.cell? ⟨P, 0, none⟩ = some (.string p)) (h2 : w.cell? ⟨K, 0, none⟩ = some (.int .i64 (k : Int))) :
    Calls Try.prog 29 #[.string s, .func (.func 30) #[] #[.pointer (some ⟨P, 0, none⟩), .pointer (some ⟨K, 0, none⟩)]] w fun e w' => e = .returned (.int .i64 (Tm.cnt (fun i => decide (Lm.bn (lst s) i < y)) s.size : Int)) ∧ w = w' := by
  have H1 := hid h1
  have H2 := hid h2
  have HY := hid hy
  clear h1 h2 hy
  go_enter Try.func29, Try.ntmps29
  go_wp2
  go_loopw [9, 5] (fun x c wr => ∃ i n : Nat, i ≤ s.size ∧ x = .int .i64 i ∧ c = .int .i64 n ∧ n ≤ i ∧ Hid (n = Tm.cnt (fun i => decide (Lm.bn (lst s) i < y)) i) ∧ wr = w) (fun x _ _ => s.size - (intOf x).toNat)
  case atStart => exact ⟨0, 0, by omega, rfl, rfl, by omega, hid rfl, rfl⟩
  case round =>
    obtain ⟨i, n, hi, rfl, rfl, hni, HN, rfl⟩ := hrel
    by_cases hlt : i < s.size
    · have hlt' : (i : Int) < (s.size : Int) := by omega
      have HB := hid (bn_byte hlt)
      have HX := hid (cnt_next (fun i => decide (Lm.bn (lst s) i < y)) i)
      obtain ⟨c, hc⟩ : ∃ c, c = s[i].toNat := ⟨_, rfl⟩
      have HC := hid hc
      have hcall := less1 s[i].toNat y P K k p wr hk HY.out H1.out H2.out
      by_cases hyes : s[i].toNat < y
      · rw [decide_eq_true hyes] at hcall
        have HYES := hid hyes
        have HCC := hid hcall
        clear hyes hcall hc
        go_wp2_with fail
        with_reducible refine HCC.out.mono ?_
        rintro e w1 ⟨rfl, rfl⟩
        go_wp2
        go_roundw
        case measure => simp [intOf]; omega
        case rel => exact ⟨i + 1, n + 1, by omega, by go_num, by go_num, by omega, hid (by rw [HX.out, HB.out, decide_eq_true HYES.out, HN.out]; rfl), by trivial⟩
      · rw [decide_eq_false hyes] at hcall
        have HYES := hid hyes
        have HCC := hid hcall
        clear hyes hcall hc
        go_wp2_with fail
        with_reducible refine HCC.out.mono ?_
        rintro e w1 ⟨rfl, rfl⟩
        go_wp2
        go_roundw
        case measure => simp [intOf]; omega
        case rel => exact ⟨i + 1, n, by omega, by go_num, rfl, by omega, hid (by rw [HX.out, HB.out, decide_eq_false HYES.out, HN.out]; rfl), by trivial⟩
    · obtain rfl : i = s.size := by omega
      have hlt' : decide ((s.size : Int) < (s.size : Int)) = false := decide_eq_false (by omega)
      go_wp2
      go_ret
      exact ⟨ret_int (by rw [HN.out]), rfl⟩
theorem count_same (s p : ByteArray) (y P K k : Nat) (w : World) (hs : s.size ≤ 1000) (hk : k < p.size) (hy : y = p[k].toNat) (h1 : w.cell? ⟨P, 0, none⟩ = some (.string p)) (h2 : w.cell? ⟨K, 0, none⟩ = some (.int .i64 (k : Int))) :
    Calls Try.prog 29 #[.string s, .func (.func 31) #[] #[.pointer (some ⟨P, 0, none⟩), .pointer (some ⟨K, 0, none⟩)]] w fun e w' => e = .returned (.int .i64 (Tm.cnt (fun i => decide (Lm.bn (lst s) i = y)) s.size : Int)) ∧ w = w' := by
  have H1 := hid h1
  have H2 := hid h2
  have HY := hid hy
  clear h1 h2 hy
  go_enter Try.func29, Try.ntmps29
  go_wp2
  go_loopw [9, 5] (fun x c wr => ∃ i n : Nat, i ≤ s.size ∧ x = .int .i64 i ∧ c = .int .i64 n ∧ n ≤ i ∧ Hid (n = Tm.cnt (fun i => decide (Lm.bn (lst s) i = y)) i) ∧ wr = w) (fun x _ _ => s.size - (intOf x).toNat)
  case atStart => exact ⟨0, 0, by omega, rfl, rfl, by omega, hid rfl, rfl⟩
  case round =>
    obtain ⟨i, n, hi, rfl, rfl, hni, HN, rfl⟩ := hrel
    by_cases hlt : i < s.size
    · have hlt' : (i : Int) < (s.size : Int) := by omega
      have HB := hid (bn_byte hlt)
      have HX := hid (cnt_next (fun i => decide (Lm.bn (lst s) i = y)) i)
      obtain ⟨c, hc⟩ : ∃ c, c = s[i].toNat := ⟨_, rfl⟩
      have HC := hid hc
      have hcall := same1 s[i].toNat y P K k p wr hk HY.out H1.out H2.out
      by_cases hyes : s[i].toNat = y
      · rw [decide_eq_true hyes] at hcall
        have HYES := hid hyes
        have HCC := hid hcall
        clear hyes hcall hc
        go_wp2_with fail
        with_reducible refine HCC.out.mono ?_
        rintro e w1 ⟨rfl, rfl⟩
        go_wp2
        go_roundw
        case measure => simp [intOf]; omega
        case rel => exact ⟨i + 1, n + 1, by omega, by go_num, by go_num, by omega, hid (by rw [HX.out, HB.out, decide_eq_true HYES.out, HN.out]; rfl), by trivial⟩
      · rw [decide_eq_false hyes] at hcall
        have HYES := hid hyes
        have HCC := hid hcall
        clear hyes hcall hc
        go_wp2_with fail
        with_reducible refine HCC.out.mono ?_
        rintro e w1 ⟨rfl, rfl⟩
        go_wp2
        go_roundw
        case measure => simp [intOf]; omega
        case rel => exact ⟨i + 1, n, by omega, by go_num, rfl, by omega, hid (by rw [HX.out, HB.out, decide_eq_false HYES.out, HN.out]; rfl), by trivial⟩
    · obtain rfl : i = s.size := by omega
      have hlt' : decide ((s.size : Int) < (s.size : Int)) = false := decide_eq_false (by omega)
      go_wp2
      go_ret
      exact ⟨ret_int (by rw [HN.out]), rfl⟩

theorem count_part (t p : ByteArray) (y P K k m : Nat) (w : World) (hs : t.size ≤ 1000) (hm : m ≤ t.size) (hk : k < p.size) (hy : y = p[k].toNat) (h1 : w.cell? ⟨P, 0, none⟩ = some (.string p)) (h2 : w.cell? ⟨K, 0, none⟩ = some (.int .i64 (k : Int))) :
    Calls Try.prog 29 #[.string (t.extract 0 m), .func (.func 31) #[] #[.pointer (some ⟨P, 0, none⟩), .pointer (some ⟨K, 0, none⟩)]] w fun e w' => e = .returned (.int .i64 (eqN t y m : Int)) ∧ w = w' := by
  have hz : (t.extract 0 m).size = m := by rw [size_ext]; omega
  refine (count_same (t.extract 0 m) p y P K k w (by omega) hk hy h1 h2).mono ?_
  rintro e w1 ⟨rfl, rfl⟩
  refine ⟨ret_int ?_, rfl⟩
  rw [hz]
  unfold eqN
  refine congrArg Int.ofNat (Tm.cnt_congr fun i hi => ?_)
  have e : Lm.bn (lst (t.extract 0 m)) i = Lm.bn (lst t) i := by
    unfold Lm.bn
    rw [lst_get, lst_get, byt_ext (by omega), Nat.zero_add]
  rw [e]
set_option maxHeartbeats 1000000 in
theorem CountOf_ok (t p : ByteArray) (w : World) (hs : t.size ≤ 200) (hp : p.size ≤ 200) :
    Calls Try.prog 14 #[.string t, .string p] w fun e w' => e = .returned (.int .i64 (Tm.csn (lst t) (lst p) : Int)) ∧ Below w.heap.size w w' := by
  obtain ⟨z0, hz0⟩ : ∃ z0 : Int, z0 = (p.size : Int) - 1 := ⟨_, rfl⟩
  have ez0 : (p.size : Int) - 1 = z0 := hz0.symm
  have hwz : wrap64 z0 = z0 := IntWalk.wrap64_in z0 (by omega)
  have hb0 := bl_then (bl_new w (.cells #[.string p] 9)) (bl_new (w.alloc (.cells #[.string p] 9)) (.cells #[.int .i64 z0] 3))
  have hc1 : ((w.alloc (.cells #[.string p] 9)).alloc (.cells #[.int .i64 z0] 3)).cell? ⟨w.heap.size, 0, none⟩ = some (.string p) := by simp
  have hc2 : ((w.alloc (.cells #[.string p] 9)).alloc (.cells #[.int .i64 z0] 3)).cell? ⟨w.heap.size + 1, 0, none⟩ = some (.int .i64 z0) := by simp
  have hf2 : ((w.alloc (.cells #[.string p] 9)).alloc (.cells #[.int .i64 z0] 3)).frozen? ⟨w.heap.size + 1, 0, none⟩ = false := by
    have h := heap_alloc2_new w (.cells #[.string p] 9) (.cells #[.int .i64 z0] 3)
    unfold World.frozen?
    rw [h]
    simp
  have hsz : ((w.alloc (.cells #[.string p] 9)).alloc (.cells #[.int .i64 z0] 3)).heap.size = w.heap.size + 2 := by simp
  have HZ0 := hid hz0
  clear hz0
  go_enter Try.func14, Try.ntmps14
  go_wp2
  generalize (w.alloc (.cells #[.string p] 9)).alloc (.cells #[.int .i64 z0] 3) = w2 at *
  go_loopg [6, 7, 8] p.size (fun q x y v wr => ∃ (g lo hi B : Nat) (z : Int), q = g ∧ x = .int .i64 (lo : Int) ∧ y = .int .i64 (hi : Int) ∧ v = .pointer (some ⟨B, 0, none⟩) ∧ z = (g : Int) - 1 ∧ g ≤ p.size ∧ lo ≤ hi ∧ hi ≤ t.size ∧ w.heap.size < B ∧ B < wr.heap.size ∧ wr.cell? ⟨B, 0, none⟩ = some (.int .i64 z) ∧ wr.frozen? ⟨B, 0, none⟩ = false ∧ wr.cell? ⟨w.heap.size, 0, none⟩ = some (.string p) ∧ Hid (Below w.heap.size w wr) ∧ Hid ((lo, hi) = Tm.cs (lst t) (lst p) (p.size - g)))
  case atStart => exact ⟨p.size, 0, t.size, w.heap.size + 1, z0, rfl, rfl, rfl, rfl, HZ0.out, Nat.le_refl _, by omega, by omega, by omega, by omega, hc2, hf2, hc1, hid hb0, hid (by rw [Nat.sub_self, ← lst_len t]; rfl)⟩
  case round =>
    clear hc1 hc2 hf2 hb0 hsz
    obtain ⟨g, lo, hi, B, z, hgg, rfl, rfl, rfl, hz, hg, hlh, hht, hB1, hB2, hcB, hfB, hcp, HB, HA⟩ := hrel
    have fin : (g = 0 ∨ ¬ lo < hi) → Hid (((hi - lo : Nat) : Int) = (Tm.csn (lst t) (lst p) : Int)) := by
      intro h
      have hA := HA.out
      refine congrArg Int.ofNat ?_
      unfold Tm.csn
      rw [lst_len]
      rcases h with h | h
      · rw [h, Nat.sub_zero] at hA
        rw [← hA]
      · have := Tm.cs_stop (lst t) (lst p) (d := p.size - g) (by rw [← hA]; exact h) g
        rw [Nat.sub_add_cancel hg] at this
        rw [this, ← hA]
    obtain ⟨r, hr⟩ : ∃ r, r = hi - lo := ⟨_, rfl⟩
    have er : (hi : Int) - (lo : Int) = (r : Int) := by omega
    have em : max (0 : Int) (r : Int) = (r : Int) := by omega
    have em2 : (if (0 : Int) < (r : Int) then (r : Int) else 0) = (r : Int) := by split <;> omega
    have hrb : r ≤ 200 := by omega
    rw [← hr] at fin
    by_cases hg0 : 0 < g
    · obtain ⟨k1, hk1⟩ : ∃ k1, g = k1 + 1 := ⟨g - 1, by omega⟩
      obtain rfl : z = (k1 : Int) := by omega
      have hz2 : decide ((0 : Int) ≤ (k1 : Int)) = true := decide_eq_true (by omega)
      by_cases hlo : lo < hi
      · have hlo' : decide ((hi : Int) ≤ (lo : Int)) = false := decide_eq_false (by omega)
        have hk1p : k1 < p.size := by omega
        obtain ⟨y, hy⟩ : ∃ y, y = p[k1].toNat := ⟨_, rfl⟩
        have HY := hid hy
        have hlot : lo ≤ t.size := by omega
        have hlot' : (lo : Int) ≤ (t.size : Int) := by omega
        have hhit' : (hi : Int) ≤ (t.size : Int) := by omega
        have HL1 := hid (count_less t p y w.heap.size B k1 wr (by omega) hk1p hy hcp hcB)
        have HC1 := hid (count_part t p y w.heap.size B k1 lo wr.drew (by omega) hlot hk1p hy hcp hcB)
        have HC2 := hid (count_part t p y w.heap.size B k1 hi wr.drew (by omega) hht hk1p hy hcp hcB)
        have hA2 : (lsN t y + eqN t y lo, lsN t y + eqN t y hi) = Tm.cs (lst t) (lst p) (p.size - k1) := by
          rw [show p.size - k1 = p.size - g + 1 by omega]
          unfold Tm.cs
          rw [← HA.out, if_pos hlo, lst_len, show p.size - 1 - (p.size - g) = k1 by omega, bn_byte hk1p, ← hy, sp_is, sp_is]
        have hls := lsN_le t y
        have hmono := Tm.sp_mono (lst t) y (m := lo) (k := hi) (by omega) (by rw [lst_len]; exact hht)
        have hle := Tm.sp_le (lst t) y hi (by rw [lst_len]; exact hht)
        rw [lst_len] at hle
        rw [sp_is] at hmono hle
        rw [sp_is] at hmono
        rw [show Tm.cnt (fun i => decide (Lm.bn (lst t) i < y)) t.size = lsN t y from rfl] at HL1
        obtain ⟨L, hL⟩ : ∃ L, L = lsN t y := ⟨_, rfl⟩
        obtain ⟨E1, hE1⟩ : ∃ E, E = eqN t y lo := ⟨_, rfl⟩
        obtain ⟨E2, hE2⟩ : ∃ E, E = eqN t y hi := ⟨_, rfl⟩
        rw [← hL] at HL1 hmono hle hA2 hls
        rw [← hE1] at HC1 hmono hA2
        rw [← hE2] at HC2 hmono hle hA2
        obtain ⟨lo2, hlo2⟩ : ∃ lo2, lo2 = L + E1 := ⟨_, rfl⟩
        obtain ⟨hi2, hhi2⟩ : ∃ hi2, hi2 = L + E2 := ⟨_, rfl⟩
        have e1 : (L : Int) + (E1 : Int) = (lo2 : Int) := by omega
        have e2 : (L : Int) + (E2 : Int) = (hi2 : Int) := by omega
        rw [← hlo2] at hmono hA2
        rw [← hhi2] at hmono hle hA2
        have hw1 : IntKind.i64.wrap (lo2 : Int) = (lo2 : Int) := IntWalk.i64_in _ (by omega)
        have hw2 : IntKind.i64.wrap (hi2 : Int) = (hi2 : Int) := IntWalk.i64_in _ (by omega)
        have HA2 := hid hA2
        have HKK := hid hk1
        have HGG := hid hgg
        clear fin HA hz hr hA2 hL hE1 hE2 hlo2 hhi2 hy hk1 hgg er em em2
        go_wp2_with fail
        with_reducible refine HL1.out.mono ?_
        rintro e w1 ⟨rfl, rfl⟩
        go_wp2
        go_region_held3 (fun _ => True) (trivial) (first | (go_at_call 29; (with_reducible refine HC1.out.mono ?_); rintro e w8 ⟨rfl, rfl⟩) | (go_at_call 29; (with_reducible refine HC2.out.mono ?_); rintro e w9 ⟨rfl, rfl⟩))
        go_wp2
        go_roundg k1
        case measure => have := HKK.out; have := HGG.out; omega
        case rel =>
          have hk := HKK.out
          refine ⟨k1, lo2, hi2, wr.heap.size, (k1 : Int) - 1, rfl, rfl, rfl, rfl, rfl, by omega, hmono, hle, by omega, by simp, by simp, ?_, ?_, hid ((HB.out.trans ((bl_new wr _).mono HB.out.size)).drew), HA2⟩
          · show (wr.alloc (.cells #[.int .i64 ((k1 : Int) - 1)] 3)).frozen? ⟨wr.heap.size, 0, none⟩ = false
            unfold World.frozen?
            rw [heap_alloc_new]
            simp
          · show (wr.alloc (.cells #[.int .i64 ((k1 : Int) - 1)] 3)).cell? ⟨w.heap.size, 0, none⟩ = some (.string p)
            exact ((bl_new wr _).cell (p := ⟨w.heap.size, 0, none⟩) (by show w.heap.size < wr.heap.size; omega)).trans hcp
      · have hlo' : decide ((hi : Int) ≤ (lo : Int)) = true := decide_eq_true (by omega)
        have HF := fin (.inr hlo)
        clear fin HA hz hr
        go_wp2
        go_ret
        exact ⟨ret_int HF.out, HB.out⟩
    · obtain rfl : g = 0 := by omega
      have hzd : decide ((0 : Int) ≤ z) = false := decide_eq_false (by omega)
      have HF := fin (.inl rfl)
      clear fin HA hz hr
      go_wp2
      go_ret
      exact ⟨ret_int HF.out, HB.out⟩
end Go.Proofs.Ytljpjjokfkbdcaa
