/-
The contract of a helper of slices.Sort at []byte: the breaking of patterns.
-/
import Derived.Test.YtljpjjokfkbdcaaBSort4
import Derived.Test.YtljpjjokfkbdcaaBSort3
import Derived.Test.YtljpjjokfkbdcaaShelfX
import Derived.Laws.Bits64b
import Derived.Laws.Closers25b
namespace Go.Proofs.Ytljpjjokfkbdcaa
open Go.RowKit

/-- The row, and a number of the call's own in block S. -/
structure SU (w0 : World) (b n : Nat) (h : Nat → Nat) (S : Nat) (w : World) : Prop where
  sb : SB w0 b n h w
  cell : ∃ k : Nat, k < 18446744073709551616 ∧ w.cell? ⟨S, 0, none⟩ = some (.int .u64 (k : Int))
  fz : w.frozen? ⟨S, 0, none⟩ = false
  ne : b ≠ S
  ge : w0.heap.size ≤ S
theorem SU.drewN {w0 w : World} {b n S : Nat} {h : Nat → Nat} (H : SU w0 b n h S w) (d : Nat) : SU w0 b n h S (w.drewN d) := ⟨H.sb.drewN d, H.cell, H.fz, H.ne, H.ge⟩
theorem SU.set_ {w0 w : World} {b n S : Nat} {h : Nat → Nat} (H : SU w0 b n h S w) (k : Nat) (hk : k < 18446744073709551616) : SU w0 b n h S (w.setCell ⟨S, 0, none⟩ (.int .u64 (k : Int))) := by
  have hb := Below.heap_setCell w ⟨S, 0, none⟩ (.int .u64 (k : Int))
  obtain ⟨u, _, hu⟩ := H.cell
  refine ⟨⟨fun j hj => ?_, fun j hj => ?_, ?_, by simpa using H.sb.lt⟩, ⟨k, hk, World.cell?_setCell_same _ _ _ hu⟩, ?_, H.ne, H.ge⟩
  · rw [World.cell?_setCell_other _ _ _ _ (by intro h'; injection h' with h'' _; exact H.ne h''.symm)]
    exact H.sb.row j hj
  · have := H.sb.fz j hj
    simpa using this
  · have g := H.sb.gr
    exact ⟨g.os, g.tape, g.output, by simpa using g.size, fun x hx hne => (hb x (by have := H.ge; show x ≠ S; omega)).trans (g.block x hx hne)⟩
  · have := H.fz
    simpa using this
theorem bits_nat (op : BinOp) (a b : Int) : ∃ k : Nat, bits op .u64 a b = (k : Int) ∧ k < 18446744073709551616 := by
  have h := bits_within op .u64 a b
  have h1 : (0 : Int) ≤ bits op .u64 a b := h.1
  have h2 : bits op .u64 a b ≤ 18446744073709551615 := h.2
  exact ⟨(bits op .u64 a b).toNat, by omega, by omega⟩
theorem next_any (w0 : World) (b n S : Nat) (h : Nat → Nat) (w : World) (H : SU w0 b n h S w) :
    Calls Try.prog 67 #[.pointer (some ⟨S, 0, none⟩)] w fun e w' => ∃ Z : Nat, e = .returned (.int .u64 (Z : Int)) ∧ Z < 18446744073709551616 ∧ SU w0 b n h S w' := by
  obtain ⟨X, hX, hc⟩ := H.cell
  have hf := H.fz
  obtain ⟨A, hA, hA2⟩ := bits_nat .xor (X : Int) (IntKind.u64.wrap ((X : Int) * 8192))
  obtain ⟨B, hB, hB2⟩ := bits_nat .xor (A : Int) ((A : Int) / 128)
  obtain ⟨C, hC, hC2⟩ := bits_nat .xor (B : Int) (IntKind.u64.wrap ((B : Int) * 131072))
  have HF := hid (((((H.set_ A hA2).set_ B hB2).set_ C hC2).drewN 1).drewN 1)
  have HF2 := hid (HF.out.drewN 1)
  have hcA : (w.setCell ⟨S, 0, none⟩ (.int .u64 (A : Int))).cell? ⟨S, 0, none⟩ = some (.int .u64 (A : Int)) := World.cell?_setCell_same _ _ _ hc
  have hcB : ((w.setCell ⟨S, 0, none⟩ (.int .u64 (A : Int))).setCell ⟨S, 0, none⟩ (.int .u64 (B : Int))).cell? ⟨S, 0, none⟩ = some (.int .u64 (B : Int)) := World.cell?_setCell_same _ _ _ hcA
  have HCF := hid (show (((w.setCell ⟨S, 0, none⟩ (.int .u64 (A : Int))).setCell ⟨S, 0, none⟩ (.int .u64 (B : Int))).setCell ⟨S, 0, none⟩ (.int .u64 (C : Int))).cell? ⟨S, 0, none⟩ = some (.int .u64 (C : Int)) from World.cell?_setCell_same _ _ _ hcB)
  clear hcA hcB HF
  clear H
  go_enter Try.func67, Try.ntmps67
  go_wp2
  go_region
  go_wp2
  go_region
  go_wp2
  go_region
  generalize ((w.setCell ⟨S, 0, none⟩ (.int .u64 (A : Int))).setCell ⟨S, 0, none⟩ (.int .u64 (B : Int))).setCell ⟨S, 0, none⟩ (.int .u64 (C : Int)) = W3 at *
  have hcf := HCF.out
  go_wp2
  go_ret
  exact ⟨C, rfl, hC2, HF2.out⟩
theorem pow_fit : ∀ n, n < 1001 → n < 2 ^ Lib.bitLen n ∧ (0 < n → 2 ^ Lib.bitLen n ≤ 2 * n) ∧ Lib.bitLen n ≤ 10 := by decide +kernel
theorem npow_any (n : Nat) (w : World) (hn : n ≤ 1000) (h0 : 0 < n) : Calls Try.prog 66 #[.int .i64 (n : Int)] w fun e w' => ∃ m : Nat, e = .returned (.int .u64 (m : Int)) ∧ n < m ∧ m ≤ 2 * n ∧ w = w' := by
  have hp := pow_fit n (by omega)
  have hC := fun W => Try.bits_Len (n : Int) W (by omega) (by omega)
  rw [Int.toNat_natCast] at hC
  obtain ⟨M, hM⟩ : ∃ M, M = 2 ^ Lib.bitLen n := ⟨_, rfl⟩
  have eM : (2 : Int) ^ Lib.bitLen n = (M : Int) := by rw [hM]; simp
  have hMb : M ≤ 2000 := by rw [hM]; have := hp.2.1 h0; omega
  have wM : IntKind.u64.wrap (M : Int) = (M : Int) := IntWalk.u64_in _ (by omega)
  have HF := hid (show n < M ∧ M ≤ 2 * n by rw [hM]; exact ⟨hp.1, hp.2.1 h0⟩)
  have hLb : Lib.bitLen n ≤ 10 := hp.2.2
  clear hp hM
  go_enter Try.func66, Try.ntmps66
  go_wp2_with fail
  with_reducible refine (hC _).mono ?_
  rintro e w1 ⟨rfl, rfl⟩
  go_wp2
  go_ret
  exact ⟨M, by first | rfl | simp [eM, wM], HF.out.1, HF.out.2, rfl⟩
theorem SB.number {w0 w : World} {b n : Nat} {h : Nat → Nat} (H : SB w0 b n h w) (k : Nat) (hk : k < 18446744073709551616) (t : TypeId) : SU w0 b n h w.heap.size (w.alloc (.cells #[.int .u64 (k : Int)] t)) := by
  refine ⟨H.keep (bl_new w _), ⟨k, hk, by simp⟩, ?_, by have := H.lt; omega, H.gr.size⟩
  unfold World.frozen?
  rw [heap_alloc_new]
  simp
theorem SU.swap {w0 w : World} {b n S : Nat} {g h : Nat → Nat} (H : SU w0 b n g S w) (i j : Nat) (hi : i < n) (hj : j < n) (hh : ∀ x, h x = g (St.swI i j x)) (d : Nat) :
    SU w0 b n h S (((w.drewN d).setCell ⟨b, i, none⟩ (.int .u8 (g j : Int))).setCell ⟨b, j, none⟩ (.int .u8 (g i : Int))) := by
  obtain ⟨k, hk, hc⟩ := H.cell
  refine ⟨H.sb.swap i j hi hj hh d, ⟨k, hk, ?_⟩, ?_, H.ne, H.ge⟩
  · rw [World.cell?_setCell_other _ _ _ _ (by intro h'; injection h' with h'' _; exact H.ne h''), World.cell?_setCell_other _ _ _ _ (by intro h'; injection h' with h'' _; exact H.ne h'')]
    exact hc
  · have := H.fz
    simpa using this
set_option maxHeartbeats 2000000 in
set_option maxRecDepth 100000 in
theorem brkB_any (w0 : World) (b n c p q : Nat) (g : Nat → Nat) (w : World) (H : SB w0 b n g w) (h1 : p + 12 < q) (h2 : q ≤ n) (hn : n ≤ 1000) :
    Calls Try.prog 42 #[.slice (some ⟨b, 0, none⟩) n c, .int .i64 (p : Int), .int .i64 (q : Int)] w fun e w' => e = .returned (.tuple #[]) ∧ ∃ h, Bs.PB p q g h ∧ SB w0 b n h w' := by
  obtain ⟨l, hl⟩ : ∃ l, l = q - p := ⟨_, rfl⟩
  have e1 : (q : Int) - (p : Int) = (l : Int) := by omega
  have hlb : l ≤ 1000 := by omega
  have hl8 : 8 ≤ l := by omega
  have hl8' : (8 : Int) ≤ (l : Int) := by omega
  have HN := hid (H.number l (by omega) 88)
  obtain ⟨f4, hf4⟩ : ∃ f4, f4 = l / 4 := ⟨_, rfl⟩
  obtain ⟨f8, hf8⟩ : ∃ f8, f8 = f4 * 2 := ⟨_, rfl⟩
  obtain ⟨s0, hs0⟩ : ∃ s0, s0 = p + f8 := ⟨_, rfl⟩
  obtain ⟨i0, hi0⟩ : ∃ i0, s0 = i0 + 1 := ⟨s0 - 1, by omega⟩
  obtain ⟨i2, hi2⟩ : ∃ i2, i2 = s0 + 1 := ⟨_, rfl⟩
  have e2 : (l : Int) / 4 = (f4 : Int) := by omega
  have e2' : (l : Int).tdiv 4 = (f4 : Int) := by rw [Int.tdiv_eq_ediv_of_nonneg (by omega)]; exact e2
  have e3 : (f4 : Int) * 2 = (f8 : Int) := by omega
  have e4 : (p : Int) + (f8 : Int) = (s0 : Int) := by omega
  have e5 : (s0 : Int) - 1 = (i0 : Int) := by omega
  have e6 : (s0 : Int) + 1 = (i2 : Int) := by omega
  have b1 : f4 ≤ 1000 := by omega
  have b2 : f8 ≤ 2000 := by omega
  have b3 : s0 ≤ 3000 := by omega
  have b4 : i2 ≤ 3001 := by omega
  have HI := hid (show p ≤ i0 ∧ i2 = i0 + 2 ∧ i2 < q by omega)
  have HL := hid hl
  clear hl hf4 hf8 hs0 hi0 hi2 H
  go_enter Try.func42, Try.ntmps42
  go_wp2_with fail
  with_reducible refine (npow_any l _ hlb (by omega)).mono ?_
  rintro e w1 ⟨m, rfl, hm1, hm2, rfl⟩
  generalize w.alloc (.cells #[.int .u64 (l : Int)] 88) = w1 at *
  generalize w.heap.size = S at *
  obtain ⟨m1, hmm1⟩ : ∃ m1, m = m1 + 1 := ⟨m - 1, by omega⟩
  have em1 : (m : Int) - 1 = (m1 : Int) := by omega
  have wm1 : IntKind.u64.wrap (m1 : Int) = (m1 : Int) := IntWalk.u64_in _ (by omega)
  have HM1 := hid hmm1
  clear hmm1
  go_wp2
  go_loopw [9] (fun x wr => ∃ k : Nat, x = .int .i64 (k : Int) ∧ i0 ≤ k ∧ k ≤ i2 + 1 ∧ Hid (∃ h, Bs.PB p q g h ∧ SU w0 b n h S wr)) (fun x _ => i2 + 1 - (intOf x).toNat)
  case atStart => exact ⟨i0, rfl, Nat.le_refl _, by have := HI.out; omega, hid ⟨g, Bs.PB.refl _ _ _, HN.out⟩⟩
  case round =>
    clear HN
    obtain ⟨k, rfl, hk0, hk2, HR⟩ := hrel
    obtain ⟨h, hpb, hsu⟩ := HR.out
    have HPB := hid hpb
    have HSU := hid hsu
    clear HR hpb hsu
    by_cases hk : k ≤ i2
    · have hk' : (k : Int) ≤ (i2 : Int) := by omega
      go_wp2_with fail
      with_reducible refine (next_any w0 b n S h _ HSU.out).mono ?_
      rintro e w2 ⟨Z, rfl, hZ, hsu2⟩
      have HS2 := hid hsu2
      obtain ⟨O, hO⟩ : ∃ O, O = Z &&& m1 := ⟨_, rfl⟩
      have hOm : O ≤ m1 := by rw [hO]; exact Nat.and_le_right
      have eO : bits .and .u64 (Z : Int) (m1 : Int) = (O : Int) := by rw [hO]; exact bits_and_u64_nat Z m1 hZ (by omega)
      have wO : IntKind.i64.wrap (O : Int) = (O : Int) := IntWalk.i64_in _ (by omega)
      have hOl : O < 2 * l := by have := HM1.out; omega
      clear hsu2 hO HSU
      by_cases hOge : l ≤ O
      · have hOge' : (l : Int) ≤ (O : Int) := by omega
        obtain ⟨o, ho⟩ : ∃ o, o = O - l := ⟨_, rfl⟩
        have eo : (O : Int) - (l : Int) = (o : Int) := by omega
        have hol : o < l := by omega
        clear ho
        obtain ⟨pa, hpa⟩ : ∃ pa, pa = p + o := ⟨_, rfl⟩
        have epa : (p : Int) + (o : Int) = (pa : Int) := by omega
        have wpa : IntKind.i64.wrap (pa : Int) = (pa : Int) := IntWalk.i64_in _ (by have := HL.out; omega)
        have zpa : (0 : Int) ≤ (pa : Int) := by omega
        have hl := HL.out
        have hin := HI.out
        have hkn : k < n := by omega
        have hpan : pa < n := by omega
        have hpaq : pa < q := by omega
        have hkn' : (k : Int) < (n : Int) := by omega
        have hpan' : (pa : Int) < (n : Int) := by omega
        have c1 := HS2.out.sb.row k hkn
        have c2 := HS2.out.sb.row pa hpan
        have f1 := HS2.out.sb.fz k hkn
        have f2 := HS2.out.sb.fz pa hpan
        have R := hid (HS2.out.swap (h := fun x => h (St.swI k pa x)) k pa hkn hpan (fun x => rfl))
        have HPB2 := hid (HPB.out.trans (Bs.PB.sw h (i := k) (j := pa) (by omega) (by omega) (by omega) hpaq))
        obtain ⟨X, hX⟩ : ∃ X, X = h k := ⟨_, rfl⟩
        obtain ⟨Y, hY⟩ : ∃ Y, Y = h pa := ⟨_, rfl⟩
        rw [← hX] at c1 R
        rw [← hY] at c2 R
        obtain ⟨U, hU⟩ := HS2.out.sb.secondD (i := k) (j := pa) hpan (.int .u8 (Y : Int))
        obtain ⟨U2, hU2⟩ := HS2.out.sb.second (i := k) (j := pa) hpan (.int .u8 (Y : Int))
        clear hX hY hl hin hpa HS2
        go_wp2
        go_region
        go_wp2
        go_roundw
        case measure => simp [intOf]; omega
        case rel => exact ⟨k + 1, by go_num, by omega, by omega, hid ⟨_, HPB2.out, by first | exact R.out _ | exact R.out 1⟩⟩
      · have hOge' : decide ((l : Int) ≤ (O : Int)) = false := decide_eq_false (by omega)
        have hol : O < l := by omega
        obtain ⟨pa, hpa⟩ : ∃ pa, pa = p + O := ⟨_, rfl⟩
        have epa : (p : Int) + (O : Int) = (pa : Int) := by omega
        have wpa : IntKind.i64.wrap (pa : Int) = (pa : Int) := IntWalk.i64_in _ (by have := HL.out; omega)
        have zpa : (0 : Int) ≤ (pa : Int) := by omega
        have hl := HL.out
        have hin := HI.out
        have hkn : k < n := by omega
        have hpan : pa < n := by omega
        have hpaq : pa < q := by omega
        have hkn' : (k : Int) < (n : Int) := by omega
        have hpan' : (pa : Int) < (n : Int) := by omega
        have c1 := HS2.out.sb.row k hkn
        have c2 := HS2.out.sb.row pa hpan
        have f1 := HS2.out.sb.fz k hkn
        have f2 := HS2.out.sb.fz pa hpan
        have R := hid (HS2.out.swap (h := fun x => h (St.swI k pa x)) k pa hkn hpan (fun x => rfl))
        have HPB2 := hid (HPB.out.trans (Bs.PB.sw h (i := k) (j := pa) (by omega) (by omega) (by omega) hpaq))
        obtain ⟨X, hX⟩ : ∃ X, X = h k := ⟨_, rfl⟩
        obtain ⟨Y, hY⟩ : ∃ Y, Y = h pa := ⟨_, rfl⟩
        rw [← hX] at c1 R
        rw [← hY] at c2 R
        obtain ⟨U, hU⟩ := HS2.out.sb.secondD (i := k) (j := pa) hpan (.int .u8 (Y : Int))
        obtain ⟨U2, hU2⟩ := HS2.out.sb.second (i := k) (j := pa) hpan (.int .u8 (Y : Int))
        clear hX hY hl hin hpa HS2
        go_wp2
        go_region
        go_wp2
        go_roundw
        case measure => simp [intOf]; omega
        case rel => exact ⟨k + 1, by go_num, by omega, by omega, hid ⟨_, HPB2.out, by first | exact R.out _ | exact R.out 1⟩⟩
    · have hk' : decide ((k : Int) ≤ (i2 : Int)) = false := decide_eq_false (by omega)
      go_wp2
      go_end0
      exact ⟨rfl, h, HPB.out, HSU.out.sb⟩
end Go.Proofs.Ytljpjjokfkbdcaa
