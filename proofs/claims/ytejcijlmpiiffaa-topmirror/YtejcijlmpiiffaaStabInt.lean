
/-
The contracts of slices.SortStableFunc at []int, with turn.order's closure: its helpers one by one.
-/
import Derived.Test.YtejcijlmpiiffaaMathAll
import Derived.Test.YtejcijlmpiiffaaStr
import Derived.RegionTactic
import Derived.BigRegion
import Derived.Deep.RegionHeld3
namespace Go.Proofs.Ytejcijlmpiiffaa
open Go.RowKit

/-- The row of block b holds the numbers g 0, g 1, .., g (n - 1); nothing else has changed since w0. -/
structure SI (w0 : World) (b n : Nat) (g : Nat → Nat) (w : World) : Prop where
  row : w.rowIs b 3 n (fun k => .int .i64 (g k : Int))
  gr : w0.grownBy w (some b)
  val : ∀ k, k < n → g k < n
theorem SI.drewN {w0 w : World} {b n : Nat} {g : Nat → Nat} (h : SI w0 b n g w) (d : Nat) : SI w0 b n g (w.drewN d) := ⟨h.row, ⟨h.gr.os, h.gr.tape, h.gr.output, h.gr.size, h.gr.block⟩, h.val⟩
theorem SI.drew {w0 w w' : World} {b n : Nat} {g : Nat → Nat} (h : SI w0 b n g w) (d : Drew w w') : SI w0 b n g w' := by
  obtain ⟨k, rfl⟩ := d
  exact h.drewN k
theorem si_set {w a : World} {g i : Nat} {v : Value} (h : w.grownBy a (some g)) : w.grownBy (a.setCell ⟨g, i, none⟩ v) (some g) :=
  ⟨h.os, h.tape, h.output, by simpa using h.size, fun x hx hne => (Below.heap_setCell a _ v x (fun e => hne (by rw [e]))).trans (h.block x hx hne)⟩
theorem SI.swap {w0 w : World} {b n : Nat} {g h : Nat → Nat} (H : SI w0 b n g w) (i j : Nat) (hi : i < n) (hj : j < n) (hh : ∀ x, h x = g (St.swI i j x)) (d : Nat) :
    SI w0 b n h (((w.drewN d).setCell ⟨b, i, none⟩ (.int .i64 (g j : Int))).setCell ⟨b, j, none⟩ (.int .i64 (g i : Int))) := by
  refine ⟨(World.rowIs.set (World.rowIs.set (H.drewN d).row i _) j _).congr fun k _ => ?_, si_set (si_set (H.drewN d).gr), fun k hk => by rw [hh k]; exact H.val _ (by have := St.swI_spec i j k; omega)⟩
  have hs := St.swI_spec i j k
  rw [hh k]
  by_cases h1 : k = j
  · rw [if_pos h1]
    by_cases h2 : k = i
    · rw [show St.swI i j k = i by omega]
    · rw [show St.swI i j k = i by omega]
  · rw [if_neg h1]
    by_cases h2 : k = i
    · rw [if_pos h2, show St.swI i j k = j by omega]
    · rw [if_neg h2, show St.swI i j k = k by omega]
theorem SI.congr {w0 w : World} {b n : Nat} {g h : Nat → Nat} (H : SI w0 b n g w) (e : ∀ x, h x = g x) : SI w0 b n h w := ⟨H.row.congr fun k _ => by rw [e k], H.gr, fun k hk => by rw [e k]; exact H.val k hk⟩

theorem swapI_any (w0 : World) (b n c p q k : Nat) (fv : Value) (g : Nat → Nat) (w : World) (H : SI w0 b n g w) (h1 : p + k ≤ q) (h2 : q + k ≤ n) (hn : n ≤ 1000) :
    Calls Try.prog 60 #[.slice (some ⟨b, 0, none⟩) n c, .int .i64 (p : Int), .int .i64 (q : Int), .int .i64 (k : Int), fv] w fun e w' => e = .returned (.tuple #[]) ∧ SI w0 b n (fun x => g (St.srI p q k x)) w' := by
  have HH := hid H
  clear H
  go_enter Try.func60, Try.ntmps60
  go_wp2
  go_loopw [10] (fun x wr => ∃ i : Nat, i ≤ k ∧ x = .int .i64 i ∧ Hid (SI w0 b n (fun x => g (St.srI p q i x)) wr)) (fun x _ => k - (intOf x).toNat)
  case atStart => exact ⟨0, by omega, rfl, hid (HH.out.congr fun x => by rw [St.sr_zero])⟩
  case round =>
    obtain ⟨i, hi, rfl, HR⟩ := hrel
    by_cases hlt : i < k
    · obtain ⟨u, hu⟩ : ∃ u, u = p + i := ⟨_, rfl⟩
      obtain ⟨v, hv⟩ : ∃ v, v = q + i := ⟨_, rfl⟩
      have eu : (p : Int) + (i : Int) = (u : Int) := by omega
      have ev : (q : Int) + (i : Int) = (v : Int) := by omega
      have hun : u < n := by omega
      have hvn : v < n := by omega
      have hun' : (u : Int) < (n : Int) := by omega
      have hvn' : (v : Int) < (n : Int) := by omega
      have hltI : (i : Int) < (k : Int) := by omega
      have cu := HR.out.row.cell hun
      have cv := HR.out.row.cell hvn
      have fu := HR.out.row.frozen u
      have fv' := HR.out.row.frozen v
      have R := hid (HR.out.swap (h := fun x => g (St.srI p q (i + 1) x)) u v hun hvn (fun x => by rw [hu, hv, St.sr_step p q i (by omega)]))
      have HU := hid hu
      have HV := hid hv
      clear hu hv HR
      go_wp2
      go_region
      go_wp2
      go_roundw
      case rel => exact ⟨i + 1, by omega, by go_num, hid (R.out 1)⟩
      case measure => simp [intOf]; omega
    · obtain rfl : i = k := by omega
      go_wp2
      go_end0
      exact ⟨rfl, HR.out⟩

theorem rotI_any (w0 : World) (b n c p m q : Nat) (fv : Value) (g : Nat → Nat) (w : World) (H : SI w0 b n g w) (h1 : p < m) (h2 : m < q) (h3 : q ≤ n) (hn : n ≤ 1000) :
    Calls Try.prog 59 #[.slice (some ⟨b, 0, none⟩) n c, .int .i64 (p : Int), .int .i64 (m : Int), .int .i64 (q : Int), fv] w fun e w' => e = .returned (.tuple #[]) ∧ SI w0 b n (fun x => g (St.rotI p m q x)) w' := by
  have HH := hid H
  clear H
  obtain ⟨i0, hi0⟩ : ∃ i0, i0 = m - p := ⟨_, rfl⟩
  obtain ⟨j0, hj0⟩ : ∃ j0, j0 = q - m := ⟨_, rfl⟩
  have ei0 : (m : Int) - (p : Int) = (i0 : Int) := by omega
  have ej0 : (q : Int) - (m : Int) = (j0 : Int) := by omega
  have HI0 := hid hi0
  have HJ0 := hid hj0
  have hb1 : i0 ≤ 1000 := by omega
  have hb2 : j0 ≤ 1000 := by omega
  clear hi0 hj0
  go_enter Try.func59, Try.ntmps59
  go_wp2
  go_loopw [10, 11] (fun x y wr => ∃ i j : Nat, x = .int .i64 i ∧ y = .int .i64 j ∧ 0 < i ∧ 0 < j ∧ i ≤ m ∧ m + j ≤ n ∧ Hid (∃ h, (∀ z, h (St.rotI (m - i) m (m + j) z) = g (St.rotI p m q z)) ∧ SI w0 b n h wr)) (fun x y _ => (intOf x).toNat + (intOf y).toNat)
  case atStart =>
    have := HI0.out
    have := HJ0.out
    refine ⟨i0, j0, rfl, rfl, by omega, by omega, by omega, by omega, hid ⟨g, fun z => ?_, HH.out⟩⟩
    rw [show m - i0 = p by omega, show m + j0 = q by omega]
  case round =>
    obtain ⟨i, j, rfl, rfl, hi, hj, him, hjm, HR⟩ := hrel
    obtain ⟨h, hh, hs⟩ := HR.out
    have HS := hid hs
    have HH2 := hid hh
    clear hs hh HR
    obtain ⟨u, hu⟩ : ∃ u, u = m - i := ⟨_, rfl⟩
    have eu : (m : Int) - (i : Int) = (u : Int) := by omega
    have HU := hid hu
    have hun : u ≤ 1000 := by omega
    clear hu
    by_cases hij : i = j
    · have hne : ((i : Int) != (j : Int)) = false := by subst hij; simp
      have HIJ := hid hij
      clear hij
      go_wp2_with fail
      with_reducible refine (swapI_any w0 b n c u m i fv h _ HS.out (by have := HU.out; omega) (by have := HIJ.out; omega) hn).mono ?_
      rintro e w1 ⟨rfl, hs1⟩
      have HS1 := hid hs1
      clear hs1
      go_wp2
      go_end0
      refine ⟨rfl, HS1.out.congr fun x => ?_⟩
      rw [← HH2.out x, HU.out, St.rot_last m i him, ← HIJ.out]
    · have hne : ((i : Int) != (j : Int)) = true := bne_iff_ne.2 (by omega)
      by_cases hlt : j < i
      · obtain ⟨v, hv⟩ : ∃ v, v = i - j := ⟨_, rfl⟩
        have ev : (i : Int) - (j : Int) = (v : Int) := by omega
        have HV := hid hv
        have hlt' : (j : Int) < (i : Int) := by omega
        have hvn : v ≤ 1000 := by omega
        have HIJ := hid hij
        clear hv hij
        go_wp2_with fail
        with_reducible refine (swapI_any w0 b n c u m j fv h _ HS.out (by have := HU.out; omega) (by omega) hn).mono ?_
        rintro e w1 ⟨rfl, hs1⟩
        have HS1 := hid hs1
        clear hs1
        go_wp2
        go_roundw
        case measure => have := HV.out; simp [intOf]; omega
        case rel =>
          have := HV.out
          refine ⟨v, j, rfl, rfl, by omega, hj, by omega, hjm, hid ⟨_, fun z => ?_, HS1.out⟩⟩
          show h (St.srI u m j (St.rotI (m - v) m (m + j) z)) = _
          rw [← HH2.out z, HU.out, this, St.rot_left m i j him hlt]
      · obtain ⟨v, hv⟩ : ∃ v, v = j - i := ⟨_, rfl⟩
        have ev : (j : Int) - (i : Int) = (v : Int) := by omega
        have HV := hid hv
        have hlt' : decide ((j : Int) < (i : Int)) = false := decide_eq_false (by omega)
        have hlt2 : i < j := by omega
        have hvn : v ≤ 1000 := by omega
        obtain ⟨t, ht⟩ : ∃ t, t = m + j := ⟨_, rfl⟩
        have et : (m : Int) + (j : Int) = (t : Int) := by omega
        have htn : t ≤ 1000 := by omega
        obtain ⟨s, hs⟩ : ∃ s, s = t - i := ⟨_, rfl⟩
        have es : (t : Int) - (i : Int) = (s : Int) := by omega
        have hsn : s ≤ 1000 := by omega
        have HT := hid ht
        have HSS := hid hs
        clear hv hij ht hs
        go_wp2_with fail
        with_reducible refine (swapI_any w0 b n c u s i fv h _ HS.out (by have := HU.out; have := HT.out; have := HSS.out; omega) (by have := HT.out; have := HSS.out; omega) hn).mono ?_
        rintro e w1 ⟨rfl, hs1⟩
        have HS1 := hid hs1
        clear hs1
        go_wp2
        go_roundw
        case measure => have := HV.out; simp [intOf]; omega
        case rel =>
          have := HV.out
          refine ⟨i, v, rfl, rfl, hi, by omega, him, by omega, hid ⟨_, fun z => ?_, HS1.out⟩⟩
          show h (St.srI u s i (St.rotI (m - i) m (m + v) z)) = _
          rw [← HH2.out z, HU.out, HSS.out, HT.out, this, St.rot_right m i j him hlt2]

/-- How the closure compares, wherever only the row has changed. -/
def CmpI (w0 : World) (b n : Nat) (cf : Nat → Nat → Int) (V1 V2 : Value) : Prop :=
  ∀ w, w0.grownBy w (some b) → ∀ x y, x < n → y < n → Calls Try.prog 52 #[.int .i64 (x : Int), .int .i64 (y : Int), V1, V2] w fun e w' => e = .returned (.int .i64 (cf x y)) ∧ Drew w w'
theorem quiet_dr {w w' : World} {d x : Nat} (h : Drew (w.drewN (d + x)) w') : ∃ n, w' = w.drewN (d + n) := by
  obtain ⟨q, rfl⟩ := h
  exact ⟨x + q, by rw [World.drewN_drewN, Nat.add_assoc]⟩
theorem quiet_d0 {w w' : World} {x : Nat} (h : Drew (w.drewN x) w') : ∃ n, w' = w.drewN n := by
  obtain ⟨q, rfl⟩ := h
  exact ⟨x + q, by rw [World.drewN_drewN]⟩
abbrev ltI (cf : Nat → Nat → Int) (x y : Nat) : Prop := cf x y < 0

theorem insI_any (w0 : World) (b n c p q : Nat) (cf : Nat → Nat → Int) (V1 V2 : Value) (R : Nat → Nat → Prop) (g : Nat → Nat) (w : World) (hC : CmpI w0 b n cf V1 V2) (O : St.Ord (ltI cf) R) (H : SI w0 b n g w)
    (hg : ∀ x y, p ≤ x → x < y → y < q → g x < g y) (h1 : p ≤ q) (h2 : q ≤ n) (hn : n ≤ 1000) :
    Calls Try.prog 56 #[.slice (some ⟨b, 0, none⟩) n c, .int .i64 (p : Int), .int .i64 (q : Int), .func (.func 52) #[] #[V1, V2]] w fun e w' => e = .returned (.tuple #[]) ∧ ∃ h, St.PI p q g h ∧ St.Srt R p q h ∧ SI w0 b n h w' := by
  have HH := hid H
  have HC := hid hC
  have HG := hid hg
  clear H hC hg
  go_enter Try.func56, Try.ntmps56
  go_wp2
  go_loopw [8] (fun x wr => ∃ i : Nat, x = .int .i64 i ∧ p < i ∧ Hid (∃ h, St.PI p (min i q) g h ∧ St.Srt R p i h ∧ SI w0 b n h wr)) (fun x _ => q - (intOf x).toNat)
  case atStart => exact ⟨p + 1, by go_num, by omega, hid ⟨g, St.PI.refl _ _ _, fun x y x1 x2 x3 => by omega, HH.out⟩⟩
  case round =>
    obtain ⟨i, rfl, hpi, HR⟩ := hrel
    obtain ⟨h, hpi1, hsrt, hsi⟩ := HR.out
    have HP := hid hpi1
    have HT := hid hsrt
    have HS := hid hsi
    clear hpi1 hsrt hsi HR
    by_cases hlt : i < q
    · have hlt' : (i : Int) < (q : Int) := by omega
      have HP : Hid (St.PI p i g h) := HP.out.mono (Nat.le_refl _) (by omega)
      go_wp2
      go_loopw [9] (fun x wr => ∃ j : Nat, x = .int .i64 j ∧ p ≤ j ∧ j ≤ i ∧ Hid (∃ h', St.PI p (i + 1) h h' ∧ St.Ins R p i j (h i) h' ∧ SI w0 b n h' wr)) (fun x _ => (intOf x).toNat)
      case atStart => exact ⟨i, rfl, by omega, by omega, hid ⟨h, St.PI.refl _ _ _, St.Ins.start (by omega) HT.out (St.erl_of_inc (b := i + 1) (fun x y x1 x2 x3 => HG.out x y x1 x2 (by omega)) HP.out), HS.out⟩⟩
      case round =>
        obtain ⟨j, rfl, hpj, hji, HR⟩ := hrel
        obtain ⟨h', hpi1, hins, hsi⟩ := HR.out
        have HP2 := hid hpi1
        have HI := hid hins
        have HS2 := hid hsi
        clear hpi1 hins hsi HR
        have fin : Hid (St.Srt R p (i + 1) h' → ∃ h, St.PI p (min (i + 1) q) g h ∧ St.Srt R p (i + 1) h ∧ SI w0 b n h wr) := fun hs => ⟨h', (HP.out.mono (Nat.le_refl _) (by omega)).trans (HP2.out.mono (Nat.le_refl _) (by omega)), hs, HS2.out⟩
        by_cases hpj2 : p < j
        · obtain ⟨k, hk⟩ : ∃ k, j = k + 1 := ⟨j - 1, by omega⟩
          have ek : (j : Int) - 1 = (k : Int) := by omega
          have hpj3 : (p : Int) < (j : Int) := by omega
          have hjn : j < n := by omega
          have hkn : k < n := by omega
          have hjn' : (j : Int) < (n : Int) := by omega
          have hkn' : (k : Int) < (n : Int) := by omega
          have cj := HS2.out.row.cell hjn
          have ck := HS2.out.row.cell hkn
          have fj := HS2.out.row.frozen j
          have fk := HS2.out.row.frozen k
          have hv := HI.out.at_
          have HCC := hid (fun d => HC.out (wr.drewN d) (HS2.out.drewN d).gr (h' j) (h' k) (HS2.out.val j hjn) (HS2.out.val k hkn))
          have hr0 : ∀ r, r = cf (h' j) (h' k) → (r < 0 ↔ ltI cf (h i) (h' k)) := by rintro r rfl; rw [← hv]
          have HR0 := hid hr0
          have R := hid (HS2.out.swap (h := fun x => h' (St.swI j k x)) j k hjn hkn (fun x => rfl))
          have HK := hid hk
          have HV := hid hv
          have hwk : IntKind.i64.wrap (k : Int) = (k : Int) := IntWalk.i64_in _ (by omega)
          have hk0 : (0 : Int) ≤ (k : Int) := by omega
          clear hk hr0 hv
          generalize hX : h' j = X at cj R HCC HR0
          generalize hY : h' k = Y at ck R HCC HR0
          have HX := hid hX
          have HY := hid hY
          clear hX hY
          obtain ⟨r, hr⟩ : ∃ r, r = cf X Y := ⟨_, rfl⟩
          have hrr := HR0.out r hr
          rw [← hr] at HCC
          by_cases hneg : r < 0
          · have HL := hid (hrr.1 hneg)
            clear hrr hr HR0 HS2 fin
            go_wp2
            go_quiet ((go_at_call 52; exact (HCC.out _).mono fun e w' h => ⟨h.1, quiet_d0 h.2⟩))
            go_wp2
            go_region
            go_wp2
            go_roundw
            case measure => have := HK.out; simp [intOf]; omega
            case rel =>
              have hk := HK.out
              have hl := HL.out
              rw [← HY.out] at hl
              have hin := HI.out
              rw [hk] at hin
              refine ⟨k, by first | rfl | go_num, by omega, by omega, hid ⟨_, HP2.out.trans (St.PI.sw h' (i := j) (j := k) (by omega) (by omega) (by omega) (by omega)), ?_, R.out _⟩⟩
              rw [hk]
              exact hin.step O (by omega) hl
          · have hneg' : decide (r < 0) = false := decide_eq_false hneg
            have HL := hid (fun hh => hneg (hrr.2 hh))
            clear hrr hr HR0 
            go_wp2
            go_quiet ((go_at_call 52; exact (HCC.out _).mono fun e w' h => ⟨h.1, quiet_d0 h.2⟩))
            go_wp2
            go_roundw
            case measure => simp [intOf]; omega
            case rel =>
              have hk := HK.out
              have hl := HL.out
              rw [← HY.out] at hl
              have hin := HI.out
              rw [hk] at hin
              obtain ⟨h2, a1, a2, a3⟩ := fin.out (hin.done O (by omega) hl)
              exact ⟨i + 1, by go_num, by omega, hid ⟨h2, a1, a2, a3.drewN _⟩⟩
        · have hpj3 : decide ((p : Int) < (j : Int)) = false := decide_eq_false (by omega)
          have hpj4 : decide (p < j) = false := decide_eq_false (by omega)
          go_wp2
          go_quiet (fail)
          go_wp2
          go_roundw
          case measure => simp [intOf]; omega
          case rel =>
            obtain rfl : p = j := by omega
            obtain ⟨h2, a1, a2, a3⟩ := fin.out HI.out.low
            exact ⟨i + 1, by go_num, by omega, hid ⟨h2, a1, a2, a3.drewN _⟩⟩
    · have hlt' : decide ((i : Int) < (q : Int)) = false := decide_eq_false (by omega)
      go_wp2
      go_end0
      exact ⟨rfl, h, HP.out.mono (Nat.le_refl _) (by omega), fun x y x1 x2 x3 => HT.out x y x1 x2 (by omega), HS.out⟩
end Go.Proofs.Ytejcijlmpiiffaa
