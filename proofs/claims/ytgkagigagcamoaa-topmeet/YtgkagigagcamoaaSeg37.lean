/-
Several texts of this proof, one behind the other.
-/
import Derived.Test.YtgkagigagcamoaaMathAll
import Derived.Test.YtgkagigagcamoaaSeg6
import Derived.RegionTactic
import Derived.BigRegion
import Derived.Deep.RegionHeld3

/-
The contracts of slices.SortStableFunc at []int, with turn.order's closure: its helpers one by one.
-/
namespace Go.Proofs.Ytgkagigagcamoaa
open Go.RowKit

/-- The row of block b holds the numbers g 0, g 1, .., g (n - 1); nothing else has changed since w0. -/
structure SI (w0 : World) (b n : Nat) (g : Nat → Nat) (w : World) : Prop where
  row : w.rowIs b 3 n (fun k => .int .i64 (g k : Int))
  gr : w0.grownBy w (some b)
  val : ∀ k, k < n → g k < n
theorem SI.drewN {w0 w : World} {b n : Nat} {g : Nat → Nat} (h : SI w0 b n g w) (d : Nat) : SI w0 b n g (w.drewN d) := ⟨h.row, ⟨h.gr.os, h.gr.tape, h.gr.output, h.gr.size, h.gr.block⟩, h.val⟩
theorem SI.drew {w0 w w' : World} {b n : Nat} {g : Nat → Nat} (h : SI w0 b n g w) (d : Drew w w') : SI w0 b n g w' := by
  obtain ⟨k, rfl⟩ := d
  exact h.drewN k
theorem si_set {w a : World} {g i : Nat} {v : Value} (h : w.grownBy a (some g)) : w.grownBy (a.setCell ⟨g, i, none⟩ v) (some g) :=
  ⟨h.os, h.tape, h.output, by simpa using h.size, fun x hx hne => (Below.heap_setCell a _ v x (fun e => hne (by rw [e]))).trans (h.block x hx hne)⟩
theorem SI.swap {w0 w : World} {b n : Nat} {g h : Nat → Nat} (H : SI w0 b n g w) (i j : Nat) (hi : i < n) (hj : j < n) (hh : ∀ x, h x = g (St.swI i j x)) (d : Nat) :
    SI w0 b n h (((w.drewN d).setCell ⟨b, i, none⟩ (.int .i64 (g j : Int))).setCell ⟨b, j, none⟩ (.int .i64 (g i : Int))) := by
  refine ⟨(World.rowIs.set (World.rowIs.set (H.drewN d).row i _) j _).congr fun k _ => ?_, si_set (si_set (H.drewN d).gr), fun k hk => by rw [hh k]; exact H.val _ (by have := St.swI_spec i j k; omega)⟩
  have hs := St.swI_spec i j k
  rw [hh k]
  by_cases h1 : k = j
  · rw [if_pos h1]
    by_cases h2 : k = i
    · rw [show St.swI i j k = i by omega]
    · rw [show St.swI i j k = i by omega]
  · rw [if_neg h1]
    by_cases h2 : k = i
    · rw [if_pos h2, show St.swI i j k = j by omega]
    · rw [if_neg h2, show St.swI i j k = k by omega]
theorem SI.congr {w0 w : World} {b n : Nat} {g h : Nat → Nat} (H : SI w0 b n g w) (e : ∀ x, h x = g x) : SI w0 b n h w := ⟨H.row.congr fun k _ => by rw [e k], H.gr, fun k hk => by rw [e k]; exact H.val k hk⟩

theorem swapI_any (w0 : World) (b n c p q k : Nat) (fv : Value) (g : Nat → Nat) (w : World) (H : SI w0 b n g w) (h1 : p + k ≤ q) (h2 : q + k ≤ n) (hn : n ≤ 1000) :
    Calls Try.prog 95 #[.slice (some ⟨b, 0, none⟩) n c, .int .i64 (p : Int), .int .i64 (q : Int), .int .i64 (k : Int), fv] w fun e w' => e = .returned (.tuple #[]) ∧ SI w0 b n (fun x => g (St.srI p q k x)) w' := by
  have HH := hid H
  clear H
  go_enter Try.func95, Try.ntmps95
  go_wp2
  go_loopw [10] (fun x wr => ∃ i : Nat, i ≤ k ∧ x = .int .i64 i ∧ Hid (SI w0 b n (fun x => g (St.srI p q i x)) wr)) (fun x _ => k - (intOf x).toNat)
  case atStart => exact ⟨0, by omega, rfl, hid (HH.out.congr fun x => by rw [St.sr_zero])⟩
  case round =>
    obtain ⟨i, hi, rfl, HR⟩ := hrel
    by_cases hlt : i < k
    · obtain ⟨u, hu⟩ : ∃ u, u = p + i := ⟨_, rfl⟩
      obtain ⟨v, hv⟩ : ∃ v, v = q + i := ⟨_, rfl⟩
      have eu : (p : Int) + (i : Int) = (u : Int) := by omega
      have ev : (q : Int) + (i : Int) = (v : Int) := by omega
      have hun : u < n := by omega
      have hvn : v < n := by omega
      have hun' : (u : Int) < (n : Int) := by omega
      have hvn' : (v : Int) < (n : Int) := by omega
      have hltI : (i : Int) < (k : Int) := by omega
      have cu := HR.out.row.cell hun
      have cv := HR.out.row.cell hvn
      have fu := HR.out.row.frozen u
      have fv' := HR.out.row.frozen v
      have R := hid (HR.out.swap (h := fun x => g (St.srI p q (i + 1) x)) u v hun hvn (fun x => by rw [hu, hv, St.sr_step p q i (by omega)]))
      have HU := hid hu
      have HV := hid hv
      clear hu hv HR
      go_wp2
      go_region
      go_wp2
      go_roundw
      case rel => exact ⟨i + 1, by omega, by go_num, hid (R.out 1)⟩
      case measure => simp [intOf]; omega
    · obtain rfl : i = k := by omega
      go_wp2
      go_end0
      exact ⟨rfl, HR.out⟩

theorem rotI_any (w0 : World) (b n c p m q : Nat) (fv : Value) (g : Nat → Nat) (w : World) (H : SI w0 b n g w) (h1 : p < m) (h2 : m < q) (h3 : q ≤ n) (hn : n ≤ 1000) :
    Calls Try.prog 94 #[.slice (some ⟨b, 0, none⟩) n c, .int .i64 (p : Int), .int .i64 (m : Int), .int .i64 (q : Int), fv] w fun e w' => e = .returned (.tuple #[]) ∧ SI w0 b n (fun x => g (St.rotI p m q x)) w' := by
  have HH := hid H
  clear H
  obtain ⟨i0, hi0⟩ : ∃ i0, i0 = m - p := ⟨_, rfl⟩
  obtain ⟨j0, hj0⟩ : ∃ j0, j0 = q - m := ⟨_, rfl⟩
  have ei0 : (m : Int) - (p : Int) = (i0 : Int) := by omega
  have ej0 : (q : Int) - (m : Int) = (j0 : Int) := by omega
  have HI0 := hid hi0
  have HJ0 := hid hj0
  have hb1 : i0 ≤ 1000 := by omega
  have hb2 : j0 ≤ 1000 := by omega
  clear hi0 hj0
  go_enter Try.func94, Try.ntmps94
  go_wp2
  go_loopw [10, 11] (fun x y wr => ∃ i j : Nat, x = .int .i64 i ∧ y = .int .i64 j ∧ 0 < i ∧ 0 < j ∧ i ≤ m ∧ m + j ≤ n ∧ Hid (∃ h, (∀ z, h (St.rotI (m - i) m (m + j) z) = g (St.rotI p m q z)) ∧ SI w0 b n h wr)) (fun x y _ => (intOf x).toNat + (intOf y).toNat)
  case atStart =>
    have := HI0.out
    have := HJ0.out
    refine ⟨i0, j0, rfl, rfl, by omega, by omega, by omega, by omega, hid ⟨g, fun z => ?_, HH.out⟩⟩
    rw [show m - i0 = p by omega, show m + j0 = q by omega]
  case round =>
    obtain ⟨i, j, rfl, rfl, hi, hj, him, hjm, HR⟩ := hrel
    obtain ⟨h, hh, hs⟩ := HR.out
    have HS := hid hs
    have HH2 := hid hh
    clear hs hh HR
    obtain ⟨u, hu⟩ : ∃ u, u = m - i := ⟨_, rfl⟩
    have eu : (m : Int) - (i : Int) = (u : Int) := by omega
    have HU := hid hu
    have hun : u ≤ 1000 := by omega
    clear hu
    by_cases hij : i = j
    · have hne : ((i : Int) != (j : Int)) = false := by subst hij; simp
      have HIJ := hid hij
      clear hij
      go_wp2_with fail
      with_reducible refine (swapI_any w0 b n c u m i fv h _ HS.out (by have := HU.out; omega) (by have := HIJ.out; omega) hn).mono ?_
      rintro e w1 ⟨rfl, hs1⟩
      have HS1 := hid hs1
      clear hs1
      go_wp2
      go_end0
      refine ⟨rfl, HS1.out.congr fun x => ?_⟩
      rw [← HH2.out x, HU.out, St.rot_last m i him, ← HIJ.out]
    · have hne : ((i : Int) != (j : Int)) = true := bne_iff_ne.2 (by omega)
      by_cases hlt : j < i
      · obtain ⟨v, hv⟩ : ∃ v, v = i - j := ⟨_, rfl⟩
        have ev : (i : Int) - (j : Int) = (v : Int) := by omega
        have HV := hid hv
        have hlt' : (j : Int) < (i : Int) := by omega
        have hvn : v ≤ 1000 := by omega
        have HIJ := hid hij
        clear hv hij
        go_wp2_with fail
        with_reducible refine (swapI_any w0 b n c u m j fv h _ HS.out (by have := HU.out; omega) (by omega) hn).mono ?_
        rintro e w1 ⟨rfl, hs1⟩
        have HS1 := hid hs1
        clear hs1
        go_wp2
        go_roundw
        case measure => have := HV.out; simp [intOf]; omega
        case rel =>
          have := HV.out
          refine ⟨v, j, rfl, rfl, by omega, hj, by omega, hjm, hid ⟨_, fun z => ?_, HS1.out⟩⟩
          show h (St.srI u m j (St.rotI (m - v) m (m + j) z)) = _
          rw [← HH2.out z, HU.out, this, St.rot_left m i j him hlt]
      · obtain ⟨v, hv⟩ : ∃ v, v = j - i := ⟨_, rfl⟩
        have ev : (j : Int) - (i : Int) = (v : Int) := by omega
        have HV := hid hv
        have hlt' : decide ((j : Int) < (i : Int)) = false := decide_eq_false (by omega)
        have hlt2 : i < j := by omega
        have hvn : v ≤ 1000 := by omega
        obtain ⟨t, ht⟩ : ∃ t, t = m + j := ⟨_, rfl⟩
        have et : (m : Int) + (j : Int) = (t : Int) := by omega
        have htn : t ≤ 1000 := by omega
        obtain ⟨s, hs⟩ : ∃ s, s = t - i := ⟨_, rfl⟩
        have es : (t : Int) - (i : Int) = (s : Int) := by omega
        have hsn : s ≤ 1000 := by omega
        have HT := hid ht
        have HSS := hid hs
        clear hv hij ht hs
        go_wp2_with fail
        with_reducible refine (swapI_any w0 b n c u s i fv h _ HS.out (by have := HU.out; have := HT.out; have := HSS.out; omega) (by have := HT.out; have := HSS.out; omega) hn).mono ?_
        rintro e w1 ⟨rfl, hs1⟩
        have HS1 := hid hs1
        clear hs1
        go_wp2
        go_roundw
        case measure => have := HV.out; simp [intOf]; omega
        case rel =>
          have := HV.out
          refine ⟨i, v, rfl, rfl, hi, by omega, him, by omega, hid ⟨_, fun z => ?_, HS1.out⟩⟩
          show h (St.srI u s i (St.rotI (m - i) m (m + v) z)) = _
          rw [← HH2.out z, HU.out, HSS.out, HT.out, this, St.rot_right m i j him hlt2]

/-- How the closure compares, wherever only the row has changed. -/
def CmpI (w0 : World) (b n : Nat) (cf : Nat → Nat → Int) (V1 V2 : Value) : Prop :=
  ∀ w, w0.grownBy w (some b) → ∀ x y, x < n → y < n → Calls Try.prog 86 #[.int .i64 (x : Int), .int .i64 (y : Int), V1, V2] w fun e w' => e = .returned (.int .i64 (cf x y)) ∧ Drew w w'
theorem quiet_dr {w w' : World} {d x : Nat} (h : Drew (w.drewN (d + x)) w') : ∃ n, w' = w.drewN (d + n) := by
  obtain ⟨q, rfl⟩ := h
  exact ⟨x + q, by rw [World.drewN_drewN, Nat.add_assoc]⟩
theorem quiet_d0 {w w' : World} {x : Nat} (h : Drew (w.drewN x) w') : ∃ n, w' = w.drewN n := by
  obtain ⟨q, rfl⟩ := h
  exact ⟨x + q, by rw [World.drewN_drewN]⟩
abbrev ltI (cf : Nat → Nat → Int) (x y : Nat) : Prop := cf x y < 0

theorem insI_any (w0 : World) (b n c p q : Nat) (cf : Nat → Nat → Int) (V1 V2 : Value) (R : Nat → Nat → Prop) (g : Nat → Nat) (w : World) (hC : CmpI w0 b n cf V1 V2) (O : St.Ord (ltI cf) R) (H : SI w0 b n g w)
    (hg : ∀ x y, p ≤ x → x < y → y < q → g x < g y) (h1 : p ≤ q) (h2 : q ≤ n) (hn : n ≤ 1000) :
    Calls Try.prog 91 #[.slice (some ⟨b, 0, none⟩) n c, .int .i64 (p : Int), .int .i64 (q : Int), .func (.func 86) #[] #[V1, V2]] w fun e w' => e = .returned (.tuple #[]) ∧ ∃ h, St.PI p q g h ∧ St.Srt R p q h ∧ SI w0 b n h w' := by
  have HH := hid H
  have HC := hid hC
  have HG := hid hg
  clear H hC hg
  go_enter Try.func91, Try.ntmps91
  go_wp2
  go_loopw [8] (fun x wr => ∃ i : Nat, x = .int .i64 i ∧ p < i ∧ Hid (∃ h, St.PI p (min i q) g h ∧ St.Srt R p i h ∧ SI w0 b n h wr)) (fun x _ => q - (intOf x).toNat)
  case atStart => exact ⟨p + 1, by go_num, by omega, hid ⟨g, St.PI.refl _ _ _, fun x y x1 x2 x3 => by omega, HH.out⟩⟩
  case round =>
    obtain ⟨i, rfl, hpi, HR⟩ := hrel
    obtain ⟨h, hpi1, hsrt, hsi⟩ := HR.out
    have HP := hid hpi1
    have HT := hid hsrt
    have HS := hid hsi
    clear hpi1 hsrt hsi HR
    by_cases hlt : i < q
    · have hlt' : (i : Int) < (q : Int) := by omega
      have HP : Hid (St.PI p i g h) := HP.out.mono (Nat.le_refl _) (by omega)
      go_wp2
      go_loopw [9] (fun x wr => ∃ j : Nat, x = .int .i64 j ∧ p ≤ j ∧ j ≤ i ∧ Hid (∃ h', St.PI p (i + 1) h h' ∧ St.Ins R p i j (h i) h' ∧ SI w0 b n h' wr)) (fun x _ => (intOf x).toNat)
      case atStart => exact ⟨i, rfl, by omega, by omega, hid ⟨h, St.PI.refl _ _ _, St.Ins.start (by omega) HT.out (St.erl_of_inc (b := i + 1) (fun x y x1 x2 x3 => HG.out x y x1 x2 (by omega)) HP.out), HS.out⟩⟩
      case round =>
        obtain ⟨j, rfl, hpj, hji, HR⟩ := hrel
        obtain ⟨h', hpi1, hins, hsi⟩ := HR.out
        have HP2 := hid hpi1
        have HI := hid hins
        have HS2 := hid hsi
        clear hpi1 hins hsi HR
        have fin : Hid (St.Srt R p (i + 1) h' → ∃ h, St.PI p (min (i + 1) q) g h ∧ St.Srt R p (i + 1) h ∧ SI w0 b n h wr) := fun hs => ⟨h', (HP.out.mono (Nat.le_refl _) (by omega)).trans (HP2.out.mono (Nat.le_refl _) (by omega)), hs, HS2.out⟩
        by_cases hpj2 : p < j
        · obtain ⟨k, hk⟩ : ∃ k, j = k + 1 := ⟨j - 1, by omega⟩
          have ek : (j : Int) - 1 = (k : Int) := by omega
          have hpj3 : (p : Int) < (j : Int) := by omega
          have hjn : j < n := by omega
          have hkn : k < n := by omega
          have hjn' : (j : Int) < (n : Int) := by omega
          have hkn' : (k : Int) < (n : Int) := by omega
          have cj := HS2.out.row.cell hjn
          have ck := HS2.out.row.cell hkn
          have fj := HS2.out.row.frozen j
          have fk := HS2.out.row.frozen k
          have hv := HI.out.at_
          have HCC := hid (fun d => HC.out (wr.drewN d) (HS2.out.drewN d).gr (h' j) (h' k) (HS2.out.val j hjn) (HS2.out.val k hkn))
          have hr0 : ∀ r, r = cf (h' j) (h' k) → (r < 0 ↔ ltI cf (h i) (h' k)) := by rintro r rfl; rw [← hv]
          have HR0 := hid hr0
          have R := hid (HS2.out.swap (h := fun x => h' (St.swI j k x)) j k hjn hkn (fun x => rfl))
          have HK := hid hk
          have HV := hid hv
          have hwk : IntKind.i64.wrap (k : Int) = (k : Int) := IntWalk.i64_in _ (by omega)
          have hk0 : (0 : Int) ≤ (k : Int) := by omega
          clear hk hr0 hv
          generalize hX : h' j = X at cj R HCC HR0
          generalize hY : h' k = Y at ck R HCC HR0
          have HX := hid hX
          have HY := hid hY
          clear hX hY
          obtain ⟨r, hr⟩ : ∃ r, r = cf X Y := ⟨_, rfl⟩
          have hrr := HR0.out r hr
          rw [← hr] at HCC
          by_cases hneg : r < 0
          · have HL := hid (hrr.1 hneg)
            clear hrr hr HR0 HS2 fin
            go_wp2
            go_quiet ((go_at_call 86; exact (HCC.out _).mono fun e w' h => ⟨h.1, quiet_d0 h.2⟩))
            go_wp2
            go_region
            go_wp2
            go_roundw
            case measure => have := HK.out; simp [intOf]; omega
            case rel =>
              have hk := HK.out
              have hl := HL.out
              rw [← HY.out] at hl
              have hin := HI.out
              rw [hk] at hin
              refine ⟨k, by first | rfl | go_num, by omega, by omega, hid ⟨_, HP2.out.trans (St.PI.sw h' (i := j) (j := k) (by omega) (by omega) (by omega) (by omega)), ?_, R.out _⟩⟩
              rw [hk]
              exact hin.step O (by omega) hl
          · have hneg' : decide (r < 0) = false := decide_eq_false hneg
            have HL := hid (fun hh => hneg (hrr.2 hh))
            clear hrr hr HR0 
            go_wp2
            go_quiet ((go_at_call 86; exact (HCC.out _).mono fun e w' h => ⟨h.1, quiet_d0 h.2⟩))
            go_wp2
            go_roundw
            case measure => simp [intOf]; omega
            case rel =>
              have hk := HK.out
              have hl := HL.out
              rw [← HY.out] at hl
              have hin := HI.out
              rw [hk] at hin
              obtain ⟨h2, a1, a2, a3⟩ := fin.out (hin.done O (by omega) hl)
              exact ⟨i + 1, by go_num, by omega, hid ⟨h2, a1, a2, a3.drewN _⟩⟩
        · have hpj3 : decide ((p : Int) < (j : Int)) = false := decide_eq_false (by omega)
          have hpj4 : decide (p < j) = false := decide_eq_false (by omega)
          go_wp2
          go_quiet (fail)
          go_wp2
          go_roundw
          case measure => simp [intOf]; omega
          case rel =>
            obtain rfl : p = j := by omega
            obtain ⟨h2, a1, a2, a3⟩ := fin.out HI.out.low
            exact ⟨i + 1, by go_num, by omega, hid ⟨h2, a1, a2, a3.drewN _⟩⟩
    · have hlt' : decide ((i : Int) < (q : Int)) = false := decide_eq_false (by omega)
      go_wp2
      go_end0
      exact ⟨rfl, h, HP.out.mono (Nat.le_refl _) (by omega), fun x y x1 x2 x3 => HT.out x y x1 x2 (by omega), HS.out⟩
end Go.Proofs.Ytgkagigagcamoaa


/-
The contract of slices.symMergeCmpFunc at []int, with turn.order's closure.
-/
namespace Go.Proofs.Ytgkagigagcamoaa
open Go.RowKit

/-- What a merge of [p, m) and [m, q) leaves. -/
def MrgI (w0 : World) (b n p q : Nat) (R : Nat → Nat → Prop) (g : Nat → Nat) (e : Ending) (w' : World) : Prop :=
  e = .returned (.tuple #[]) ∧ ∃ h, St.PI p q g h ∧ St.Srt R p q h ∧ SI w0 b n h w'
set_option maxRecDepth 100000 in
theorem symI_left (w0 : World) (b n c p m q : Nat) (cf : Nat → Nat → Int) (V1 V2 : Value) (R : Nat → Nat → Prop) (g : Nat → Nat) (w : World) (hC : CmpI w0 b n cf V1 V2) (O : St.Ord (ltI cf) R) (H : SI w0 b n g w)
    (h2 : St.Srt R m q g) (he : St.Erl p m q g) (h12 : m = p + 1) (h3 : m < q) (h4 : q ≤ n) (hn : n ≤ 1000) :
    Calls Try.prog 92 #[.slice (some ⟨b, 0, none⟩) n c, .int .i64 (p : Int), .int .i64 (m : Int), .int .i64 (q : Int), .func (.func 86) #[] #[V1, V2]] w (MrgI w0 b n p q R g) := by
  have HH := hid H
  have HC := hid hC
  have H2 := hid h2
  have HE := hid he
  have HM := hid h12
  have e1 : (m : Int) - (p : Int) = 1 := by omega
  have hpm : p < m := by omega
  clear H hC h2 he h12
  go_enter Try.func92, Try.ntmps92
  go_wp2
  go_loopw [10, 11] (fun x y wr => ∃ i j : Nat, x = .int .i64 i ∧ y = .int .i64 j ∧ m ≤ i ∧ i ≤ j ∧ j ≤ q ∧ Hid (∀ z, m ≤ z → z < i → R (g z) (g p)) ∧ Hid (∀ z, j ≤ z → z < q → R (g p) (g z)) ∧ Hid (SI w0 b n g wr)) (fun x y _ => (intOf y).toNat - (intOf x).toNat)
  case atStart => exact ⟨m, q, rfl, rfl, by omega, by omega, by omega, hid (fun z z1 z2 => by omega), hid (fun z z1 z2 => by omega), HH⟩
  case round =>
    clear HH
    obtain ⟨i, j, rfl, rfl, hmi, hij, hjq, HL, HR, HS⟩ := hrel
    by_cases hlt : i < j
    · obtain ⟨t, ht⟩ : ∃ t, t = (i + j) / 2 := ⟨_, rfl⟩
      have hlt' : (i : Int) < (j : Int) := by omega
      have et : ((i : Int) + (j : Int)) / 2 = (t : Int) := by omega
      have HT := hid ht
      have htn : t < n := by omega
      have htn' : (t : Int) < (n : Int) := by omega
      have hpn : p < n := by omega
      have hpn' : (p : Int) < (n : Int) := by omega
      have ct := HS.out.row.cell htn
      have cp := HS.out.row.cell hpn
      have HCC := hid (fun d => HC.out (wr.drewN d) (HS.out.drewN d).gr (g t) (g p) (HS.out.val t htn) (HS.out.val p hpn))
      have hit : i ≤ t := by omega
      have htj : t < j := by omega
      obtain ⟨r, hr⟩ : ∃ r, r = cf (g t) (g p) := ⟨_, rfl⟩
      rw [← hr] at HCC
      have HRR := hid hr
      obtain ⟨X, hX⟩ : ∃ X, X = g t := ⟨_, rfl⟩
      obtain ⟨Y, hY⟩ : ∃ Y, Y = g p := ⟨_, rfl⟩
      rw [← hX] at ct HCC
      rw [← hY] at cp HCC
      clear hX hY hr ht
      by_cases hneg : r < 0
      · go_wp2
        go_quiet ((go_at_call 86; exact (HCC.out _).mono fun e w' h => ⟨h.1, quiet_d0 h.2⟩))
        go_wp2
        go_roundw
        case measure => simp [intOf]; omega
        case rel =>
          refine ⟨t + 1, j, by go_num, rfl, by omega, by omega, hjq, hid ?_, HR, hid (HS.out.drewN _)⟩
          exact St.left_yes O hpm H2.out HE.out (by omega) (by omega) (by have := HRR.out; omega)
      · have hneg' : decide (r < 0) = false := decide_eq_false hneg
        go_wp2
        go_quiet ((go_at_call 86; exact (HCC.out _).mono fun e w' h => ⟨h.1, quiet_d0 h.2⟩))
        go_wp2
        go_roundw
        case measure => simp [intOf]; omega
        case rel =>
          refine ⟨i, t, rfl, rfl, hmi, hit, by omega, HL, hid ?_, hid (HS.out.drewN _)⟩
          exact St.left_no O hpm H2.out HE.out (by omega) (by omega) (by have := HRR.out; omega)
    · have hlt' : decide ((i : Int) < (j : Int)) = false := decide_eq_false (by omega)
      obtain rfl : i = j := by omega
      obtain ⟨i1, hi1⟩ : ∃ i1, i = i1 + 1 := ⟨i - 1, by omega⟩
      have ei1 : (i : Int) - 1 = (i1 : Int) := by omega
      have HI1 := hid hi1
      have hpi1 : p ≤ i1 := by omega
      have hi1n : i1 < n := by omega
      have hwi : IntKind.i64.wrap (i1 : Int) = (i1 : Int) := IntWalk.i64_in _ (by omega)
      clear hi1
      go_wp2
      go_loopw [13] (fun x wr => ∃ k : Nat, x = .int .i64 k ∧ p ≤ k ∧ k ≤ i1 ∧ Hid (SI w0 b n (fun x => g (St.mvI p k x)) wr)) (fun x _ => i1 - (intOf x).toNat)
      case atStart => exact ⟨p, rfl, by omega, by omega, hid (HS.out.congr fun x => by rw [St.mv_zero])⟩
      case round =>
        clear HS
        obtain ⟨k, rfl, hpk, hki, HS⟩ := hrel
        by_cases hk : k < i1
        · have hk' : (k : Int) < (i1 : Int) := by omega
          obtain ⟨k1, hk1⟩ : ∃ k1, k1 = k + 1 := ⟨_, rfl⟩
          have ek1 : (k : Int) + 1 = (k1 : Int) := by omega
          have hkn : k < n := by omega
          have hk1n : k1 < n := by omega
          have hkn' : (k : Int) < (n : Int) := by omega
          have hk1n' : (k1 : Int) < (n : Int) := by omega
          have ck := HS.out.row.cell hkn
          have ck1 := HS.out.row.cell hk1n
          have fk := HS.out.row.frozen k
          have fk1 := HS.out.row.frozen k1
          have hwk : IntKind.i64.wrap (k1 : Int) = (k1 : Int) := IntWalk.i64_in _ (by omega)
          have hk0 : (0 : Int) ≤ (k1 : Int) := by omega
          have RR := hid (HS.out.swap (h := fun x => g (St.mvI p k1 x)) k k1 hkn hk1n (fun x => by rw [hk1, St.mv_step p k hpk]))
          have HK := hid hk1
          clear hk1 HS
          go_wp2
          go_region
          go_wp2
          go_roundw
          case measure => have := HK.out; simp [intOf]; omega
          case rel =>
            have := HK.out
            exact ⟨k1, by first | rfl | go_num, by omega, by omega, hid (RR.out _)⟩
        · have hk' : decide ((k : Int) < (i1 : Int)) = false := decide_eq_false (by omega)
          obtain rfl : i1 = k := by omega
          go_wp2
          refine bodyPost_ret (results_none rfl _ _ _) rfl ?_
          have hm := HM.out
          have hi := HI1.out
          refine ⟨rfl, _, St.PI.mv g hpk (by omega), ?_, HS.out⟩
          have := St.left_srt (R := R) (a := p) (b := q) (i := i) (g := g) (by rw [← hm]; exact H2.out) (by omega) hjq (fun x x1 x2 => HL.out x (by omega) x2) HR.out
          rw [show i - 1 = i1 by omega] at this
          exact this
set_option maxRecDepth 100000 in
theorem symI_right (w0 : World) (b n c p m q : Nat) (cf : Nat → Nat → Int) (V1 V2 : Value) (R : Nat → Nat → Prop) (g : Nat → Nat) (w : World) (hC : CmpI w0 b n cf V1 V2) (O : St.Ord (ltI cf) R) (H : SI w0 b n g w)
    (h1 : St.Srt R p m g) (he : St.Erl p m q g) (h12 : q = m + 1) (h3 : p + 1 < m) (h4 : q ≤ n) (hn : n ≤ 1000) :
    Calls Try.prog 92 #[.slice (some ⟨b, 0, none⟩) n c, .int .i64 (p : Int), .int .i64 (m : Int), .int .i64 (q : Int), .func (.func 86) #[] #[V1, V2]] w (MrgI w0 b n p q R g) := by
  have HH := hid H
  have HC := hid hC
  have H1 := hid h1
  have HE := hid he
  have HM := hid h12
  obtain ⟨u, hu⟩ : ∃ u, u = m - p := ⟨_, rfl⟩
  have eu : (m : Int) - (p : Int) = (u : Int) := by omega
  have hu1 : ((u : Int) == 1) = false := beq_eq_false_iff_ne.2 (by omega)
  have e1 : (q : Int) - (m : Int) = 1 := by omega
  have hun : u ≤ 1000 := by omega
  have hmn : m < n := by omega
  clear H hC h1 he h12 hu
  go_enter Try.func92, Try.ntmps92
  go_wp2
  go_loopw [14, 15] (fun x y wr => ∃ i j : Nat, x = .int .i64 i ∧ y = .int .i64 j ∧ p ≤ i ∧ i ≤ j ∧ j ≤ m ∧ Hid (∀ z, p ≤ z → z < i → R (g z) (g m)) ∧ Hid (∀ z, j ≤ z → z < m → R (g m) (g z)) ∧ Hid (SI w0 b n g wr)) (fun x y _ => (intOf y).toNat - (intOf x).toNat)
  case atStart => exact ⟨p, m, rfl, rfl, by omega, by omega, by omega, hid (fun z z1 z2 => by omega), hid (fun z z1 z2 => by omega), HH⟩
  case round =>
    clear HH
    obtain ⟨i, j, rfl, rfl, hmi, hij, hjq, HL, HR, HS⟩ := hrel
    by_cases hlt : i < j
    · obtain ⟨t, ht⟩ : ∃ t, t = (i + j) / 2 := ⟨_, rfl⟩
      have hlt' : (i : Int) < (j : Int) := by omega
      have et : ((i : Int) + (j : Int)) / 2 = (t : Int) := by omega
      have HT := hid ht
      have htn : t < n := by omega
      have htn' : (t : Int) < (n : Int) := by omega
      have hpn' : (m : Int) < (n : Int) := by omega
      have ct := HS.out.row.cell htn
      have cp := HS.out.row.cell hmn
      have HCC := hid (fun d => HC.out (wr.drewN d) (HS.out.drewN d).gr (g m) (g t) (HS.out.val m hmn) (HS.out.val t htn))
      have hit : i ≤ t := by omega
      have htj : t < j := by omega
      obtain ⟨r, hr⟩ : ∃ r, r = cf (g m) (g t) := ⟨_, rfl⟩
      rw [← hr] at HCC
      have HRR := hid hr
      obtain ⟨X, hX⟩ : ∃ X, X = g t := ⟨_, rfl⟩
      obtain ⟨Y, hY⟩ : ∃ Y, Y = g m := ⟨_, rfl⟩
      rw [← hX] at ct HCC
      rw [← hY] at cp HCC
      clear hX hY hr ht
      by_cases hneg : r < 0
      · go_wp2
        go_quiet ((go_at_call 86; exact (HCC.out _).mono fun e w' h => ⟨h.1, quiet_d0 h.2⟩))
        go_wp2
        go_roundw
        case measure => simp [intOf]; omega
        case rel =>
          refine ⟨i, t, rfl, rfl, hmi, hit, by omega, HL, hid ?_, hid (HS.out.drewN _)⟩
          exact St.right_yes O H1.out (by rw [← HM.out]; exact HE.out) (by omega) (by omega) (by have := HRR.out; omega)
      · have hneg' : decide (r < 0) = false := decide_eq_false hneg
        go_wp2
        go_quiet ((go_at_call 86; exact (HCC.out _).mono fun e w' h => ⟨h.1, quiet_d0 h.2⟩))
        go_wp2
        go_roundw
        case measure => simp [intOf]; omega
        case rel =>
          refine ⟨t + 1, j, by go_num, rfl, by omega, by omega, hjq, hid ?_, HR, hid (HS.out.drewN _)⟩
          exact St.right_no O H1.out (by rw [← HM.out]; exact HE.out) (by omega) (by omega) (by have := HRR.out; omega)
    · have hlt' : decide ((i : Int) < (j : Int)) = false := decide_eq_false (by omega)
      obtain rfl : i = j := by omega
      go_wp2
      go_loopw [17] (fun x wr => ∃ k : Nat, x = .int .i64 k ∧ i ≤ k ∧ k ≤ m ∧ Hid (SI w0 b n (fun x => g (St.mrI m k x)) wr)) (fun x _ => (intOf x).toNat - i)
      case atStart => exact ⟨m, rfl, by omega, by omega, hid (HS.out.congr fun x => by rw [St.mr_zero])⟩
      case round =>
        clear HS
        obtain ⟨k, rfl, hpk, hki, HS⟩ := hrel
        by_cases hk : i < k
        · have hk' : (i : Int) < (k : Int) := by omega
          obtain ⟨k1, hk1⟩ : ∃ k1, k = k1 + 1 := ⟨k - 1, by omega⟩
          have ek1 : (k : Int) - 1 = (k1 : Int) := by omega
          have hkn : k < n := by omega
          have hk1n : k1 < n := by omega
          have hkn' : (k : Int) < (n : Int) := by omega
          have hk1n' : (k1 : Int) < (n : Int) := by omega
          have ck := HS.out.row.cell hkn
          have ck1 := HS.out.row.cell hk1n
          have fk := HS.out.row.frozen k
          have fk1 := HS.out.row.frozen k1
          have hwk : IntKind.i64.wrap (k1 : Int) = (k1 : Int) := IntWalk.i64_in _ (by omega)
          have hk0 : (0 : Int) ≤ (k1 : Int) := by omega
          have RR := hid (HS.out.swap (h := fun x => g (St.mrI m k1 x)) k k1 hkn hk1n (fun x => by rw [hk1, St.mr_step m k1 (by omega)]))
          have HK := hid hk1
          clear hk1 HS
          go_wp2
          go_region
          go_wp2
          go_roundw
          case measure => have := HK.out; simp [intOf]; omega
          case rel =>
            have := HK.out
            exact ⟨k1, by first | rfl | go_num, by omega, by omega, hid (RR.out _)⟩
        · have hk' : decide ((i : Int) < (k : Int)) = false := decide_eq_false (by omega)
          obtain rfl : i = k := by omega
          go_wp2
          refine bodyPost_ret (results_none rfl _ _ _) rfl ?_
          have hm := HM.out
          refine ⟨rfl, _, St.PI.mr g hmi hki (by omega), ?_, HS.out⟩
          rw [hm]
          exact St.right_srt H1.out hmi hki HL.out HR.out
end Go.Proofs.Ytgkagigagcamoaa


/-
The contract of slices.symMergeCmpFunc at []int, with turn.order's closure: the way that calls itself.
-/
namespace Go.Proofs.Ytgkagigagcamoaa
open Go.RowKit

/-- Merging as it is asked for, of parts up to the length N. -/
def SymOk (w0 : World) (b n c : Nat) (V1 V2 : Value) (R : Nat → Nat → Prop) (N : Nat) : Prop :=
  ∀ p m q g w, q - p ≤ N → SI w0 b n g w → St.Srt R p m g → St.Srt R m q g → St.Erl p m q g → p < m → m < q → q ≤ n →
    Calls Try.prog 92 #[.slice (some ⟨b, 0, none⟩) n c, .int .i64 (p : Int), .int .i64 (m : Int), .int .i64 (q : Int), .func (.func 86) #[] #[V1, V2]] w (MrgI w0 b n p q R g)
theorem SymOk.at_ {w0 : World} {b n c : Nat} {V1 V2 : Value} {R : Nat → Nat → Prop} {N : Nat} (h : SymOk w0 b n c V1 V2 R N) (p m q : Nat) (g : Nat → Nat) (w : World) (h0 : q - p ≤ N) (h1 : SI w0 b n g w) (h2 : St.Srt R p m g) (h3 : St.Srt R m q g) (h4 : St.Erl p m q g) (h5 : p < m) (h6 : m < q) (h7 : q ≤ n) :
    Calls Try.prog 92 #[.slice (some ⟨b, 0, none⟩) n c, .int .i64 (p : Int), .int .i64 (m : Int), .int .i64 (q : Int), .func (.func 86) #[] #[V1, V2]] w (MrgI w0 b n p q R g) := h p m q g w h0 h1 h2 h3 h4 h5 h6 h7
set_option maxRecDepth 100000 in
set_option maxHeartbeats 8000000 in
theorem symI_mid (w0 : World) (b n c p m q N : Nat) (cf : Nat → Nat → Int) (V1 V2 : Value) (R : Nat → Nat → Prop) (g : Nat → Nat) (w : World) (hC : CmpI w0 b n cf V1 V2) (O : St.Ord (ltI cf) R) (H : SI w0 b n g w)
    (IH : SymOk w0 b n c V1 V2 R N) (hN : q - p ≤ N + 1)
    (h1 : St.Srt R p m g) (h2 : St.Srt R m q g) (he : St.Erl p m q g) (h12 : p + 1 < m) (h3 : m + 1 < q) (h4 : q ≤ n) (hn : n ≤ 1000) :
    Calls Try.prog 92 #[.slice (some ⟨b, 0, none⟩) n c, .int .i64 (p : Int), .int .i64 (m : Int), .int .i64 (q : Int), .func (.func 86) #[] #[V1, V2]] w (MrgI w0 b n p q R g) := by
  have HH := hid H
  have HC := hid hC
  have H1 := hid h1
  have H2 := hid h2
  have HE := hid he
  have HI := hid IH
  obtain ⟨u, hu⟩ : ∃ u, u = m - p := ⟨_, rfl⟩
  have eu : (m : Int) - (p : Int) = (u : Int) := by omega
  have hu1 : ((u : Int) == 1) = false := beq_eq_false_iff_ne.2 (by omega)
  have hun : u ≤ 1000 := by omega
  obtain ⟨v, hv⟩ : ∃ v, v = q - m := ⟨_, rfl⟩
  have ev : (q : Int) - (m : Int) = (v : Int) := by omega
  have hv1 : ((v : Int) == 1) = false := beq_eq_false_iff_ne.2 (by omega)
  have hvn : v ≤ 1000 := by omega
  obtain ⟨mid, hmid⟩ : ∃ mid, mid = (p + q) / 2 := ⟨_, rfl⟩
  have emid : ((p : Int) + (q : Int)) / 2 = (mid : Int) := by omega
  have hmidn : mid ≤ 1000 := by omega
  obtain ⟨nn, hnn⟩ : ∃ nn, nn = mid + m := ⟨_, rfl⟩
  have enn : (mid : Int) + (m : Int) = (nn : Int) := by omega
  have hnnn : nn ≤ 2000 := by omega
  obtain ⟨P, hP⟩ : ∃ P, nn = P + 1 := ⟨nn - 1, by omega⟩
  have eP : (nn : Int) - 1 = (P : Int) := by omega
  have hPn : P ≤ 2000 := by omega
  have HN := hid hN
  have HMID := hid hmid
  have HNN := hid hnn
  have HP := hid hP
  have SR : Hid (∃ s0 r0 : Nat, (mid < m → ((nn : Int) - (q : Int) = (s0 : Int)) ∧ r0 = mid) ∧ (¬ mid < m → s0 = p ∧ r0 = m) ∧ p ≤ s0 ∧ s0 ≤ r0 ∧ r0 ≤ m ∧ r0 ≤ mid ∧ P < q + s0 ∧ (s0 = p ∨ nn = q + s0) ∧ (r0 = m ∨ r0 = mid)) := by
    by_cases hmm : mid < m
    · exact ⟨nn - q, mid, fun _ => ⟨by omega, rfl⟩, fun h => absurd hmm h, by omega, by omega, by omega, by omega, by omega, .inr (by omega), .inr rfl⟩
    · exact ⟨p, m, fun h => absurd h hmm, fun _ => ⟨rfl, rfl⟩, by omega, by omega, by omega, by omega, by omega, .inl rfl, .inl rfl⟩
  obtain ⟨s0, r0, ea, eb, k1, k2, k3, k4, k5, k6, k7⟩ := SR.out
  have K6 := hid k6
  have K7 := hid k7
  have HA := hid ea
  have HB := hid eb
  clear H hC h1 h2 he hu hv hmid hnn hP SR IH k6 k7 ea eb hN
  by_cases hmm : mid < m
  case' pos =>
    have hmm' : (mid : Int) < (m : Int) := by omega
    have es0 := (HA.out hmm).1
  case' neg =>
    have hmm' : decide ((mid : Int) < (m : Int)) = false := decide_eq_false (by omega)
  all_goals
    go_enter Try.func92, Try.ntmps92
    go_wp2
    go_loopw [20, 21] (fun x y wr => ∃ i j : Nat, x = .int .i64 i ∧ y = .int .i64 j ∧ s0 ≤ i ∧ i ≤ j ∧ j ≤ r0 ∧ Hid (∀ z, s0 ≤ z → z < i → R (g z) (g (P - z))) ∧ Hid (∀ z, j ≤ z → z < r0 → R (g (P - z)) (g z)) ∧ Hid (SI w0 b n g wr)) (fun x y _ => (intOf y).toNat - (intOf x).toNat)
    case atStart =>
      refine ⟨s0, r0, ?_, ?_, by omega, by omega, by omega, hid (fun z z1 z2 => by omega), hid (fun z z1 z2 => by omega), HH⟩
      · first | rfl | rw [(HB.out hmm).1]
      · first | rw [(HA.out hmm).2] | rw [(HB.out hmm).2]
    case round =>
      clear HH
      obtain ⟨i, j, rfl, rfl, hmi, hij, hjq, HL, HR, HS⟩ := hrel
      have hnn := HNN.out
      have hP := HP.out
      by_cases hlt : i < j
      · obtain ⟨t, ht⟩ : ∃ t, t = (i + j) / 2 := ⟨_, rfl⟩
        have hlt' : (i : Int) < (j : Int) := by omega
        have et : ((i : Int) + (j : Int)) / 2 = (t : Int) := by omega
        have HT := hid ht
        have htn : t < n := by omega
        have htn' : (t : Int) < (n : Int) := by omega
        obtain ⟨d, hd⟩ : ∃ d, d = P - t := ⟨_, rfl⟩
        have ed : (P : Int) - (t : Int) = (d : Int) := by omega
        have hdn : d < n := by omega
        have hdn' : (d : Int) < (n : Int) := by omega
        have hwd : IntKind.i64.wrap (d : Int) = (d : Int) := IntWalk.i64_in _ (by omega)
        have hd0 : (0 : Int) ≤ (d : Int) := by omega
        have ct := HS.out.row.cell htn
        have cd := HS.out.row.cell hdn
        have HCC := hid (fun x => HC.out (wr.drewN x) (HS.out.drewN x).gr (g d) (g t) (HS.out.val d hdn) (HS.out.val t htn))
        have hit : i ≤ t := by omega
        have htj : t < j := by omega
        obtain ⟨r, hr⟩ : ∃ r, r = cf (g d) (g t) := ⟨_, rfl⟩
        rw [← hr] at HCC
        rw [hd] at hr
        have HRR := hid hr
        obtain ⟨X, hX⟩ : ∃ X, X = g t := ⟨_, rfl⟩
        obtain ⟨Y, hY⟩ : ∃ Y, Y = g d := ⟨_, rfl⟩
        rw [← hX] at ct HCC
        rw [← hY] at cd HCC
        clear hX hY hr ht hd hnn hP
        by_cases hneg : r < 0
        · go_wp2
          go_quiet ((go_at_call 86; exact (HCC.out _).mono fun e w' h => ⟨h.1, quiet_d0 h.2⟩))
          go_wp2
          go_roundw
          case measure => simp [intOf]; omega
          case rel =>
            have hnn := HNN.out
            have hP := HP.out
            refine ⟨i, t, rfl, rfl, hmi, hit, by omega, HL, hid ?_, hid (HS.out.drewN _)⟩
            exact St.mid_yes O H1.out H2.out HE.out (by omega) k3 (by omega) (by omega) (by omega) (by have := HRR.out; omega)
        · have hneg' : decide (r < 0) = false := decide_eq_false hneg
          go_wp2
          go_quiet ((go_at_call 86; exact (HCC.out _).mono fun e w' h => ⟨h.1, quiet_d0 h.2⟩))
          go_wp2
          go_roundw
          case measure => simp [intOf]; omega
          case rel =>
            have hnn := HNN.out
            have hP := HP.out
            refine ⟨t + 1, j, by go_num, rfl, by omega, by omega, hjq, hid ?_, HR, hid (HS.out.drewN _)⟩
            exact St.mid_no O H1.out H2.out HE.out k1 (by omega) (by omega) (by omega) (by omega) (by have := HRR.out; omega)
      · have hlt' : decide ((i : Int) < (j : Int)) = false := decide_eq_false (by omega)
        obtain rfl : i = j := by omega
        obtain ⟨e, hee⟩ : ∃ e, e = nn - i := ⟨_, rfl⟩
        have ee : (nn : Int) - (i : Int) = (e : Int) := by omega
        have hen : e ≤ q := by omega
        have hei : e + i = mid + m := by omega
        have hem : m ≤ e := by omega
        have hme : mid ≤ e := by omega
        have hpi : p ≤ i := by omega
        have him : i ≤ m := by omega
        have himid : i ≤ mid := by omega
        have hpmid : p < mid := by have := HMID.out; omega
        have hmidq : mid < q := by have := HMID.out; omega
        have CUT : Hid (St.Cutd R p i mid e q (fun x => g (St.rotI i m e x))) := by
          refine St.cut_rot O H1.out H2.out HE.out hpi him himid hei hen (fun a1 a2 => ?_) (fun a1 a2 => ?_)
          · have := K6.out
            have := HL.out (i - 1) (by omega) (by omega)
            rw [show P - (i - 1) = e by omega] at this
            exact this
          · have := K7.out
            have := HR.out i (Nat.le_refl _) (by omega)
            rw [show P - i = e - 1 by omega] at this
            exact this
        have HNL : Hid (mid - p ≤ N) := by have := HN.out; show mid - p ≤ N; omega
        have HNR : Hid (q - mid ≤ N) := by have := HN.out; show q - mid ≤ N; omega
        have PIR := hid (St.PI.rot (a := p) (b := q) g hpi him hem hen)
        have hen1 : e ≤ 1000 := by omega
        clear hee HL HR hnn hP
        by_cases ha : i < m
        · have ha1 : (i : Int) < (m : Int) := by omega
          by_cases hb' : m < e
          · have hb1 : (m : Int) < (e : Int) := by omega
            have hd : i < mid := by omega
            have hd1 : (i : Int) < (mid : Int) := by omega
            have hf : mid < e := by omega
            have hf1 : (mid : Int) < (e : Int) := by omega
            by_cases hc : p < i
            · have hc1 : (p : Int) < (i : Int) := by omega
              by_cases hh : e < q
              · have hh1 : (e : Int) < (q : Int) := by omega
                go_wp2_with fail
                with_reducible refine (rotI_any w0 b n c i m e _ g _ HS.out ha hb' (by omega) hn).mono ?_
                rintro _ w1 ⟨rfl, hs1⟩
                have HS1 := hid hs1
                clear hs1 HS
                go_wp2_with fail
                with_reducible refine (HI.out.at_ p i mid _ _ HNL.out HS1.out CUT.out.s1 CUT.out.s2 CUT.out.e1 hc hd (by omega)).mono ?_
                rintro _ w2 ⟨rfl, g2, pi2, st2, hs2⟩
                have PI2 := hid pi2
                have ST2 := hid st2
                have HS2 := hid hs2
                clear pi2 st2 hs2 HS1
                go_wp2_with fail
                with_reducible refine (HI.out.at_ mid e q g2 _ HNR.out HS2.out (CUT.out.s3.congr fun x x1 _ => PI2.out.out x (.inr x1)) (CUT.out.s4.congr fun x x1 _ => PI2.out.out x (.inr (by omega))) (CUT.out.e2.congr fun x x1 _ => PI2.out.out x (.inr x1)) hf hh h4).mono ?_
                rintro _ w3 ⟨rfl, g3, pi3, st3, hs3⟩
                have PI3 := hid pi3
                have ST3 := hid st3
                have HS3 := hid hs3
                clear pi3 st3 hs3 HS2
                go_wp2
                go_end0
                exact ⟨rfl, g3, (PIR.out.trans (PI2.out.mono (Nat.le_refl _) (by omega))).trans (PI3.out.mono (by omega) (Nat.le_refl _)), St.cut_join CUT.out PI2.out PI3.out ST2.out ST3.out, HS3.out⟩
              · have hh1 : decide ((e : Int) < (q : Int)) = false := decide_eq_false (by omega)
                go_wp2_with fail
                with_reducible refine (rotI_any w0 b n c i m e _ g _ HS.out ha hb' (by omega) hn).mono ?_
                rintro _ w1 ⟨rfl, hs1⟩
                have HS1 := hid hs1
                clear hs1 HS
                go_wp2_with fail
                with_reducible refine (HI.out.at_ p i mid _ _ HNL.out HS1.out CUT.out.s1 CUT.out.s2 CUT.out.e1 hc hd (by omega)).mono ?_
                rintro _ w2 ⟨rfl, g2, pi2, st2, hs2⟩
                have PI2 := hid pi2
                have ST2 := hid st2
                have HS2 := hid hs2
                clear pi2 st2 hs2 HS1
                obtain ⟨g3, pi3, st3, hs3⟩ : ∃ g3, St.PI mid q g2 g3 ∧ St.Srt R mid q g3 ∧ SI w0 b n g3 _ := ⟨_, St.PI.refl _ _ _, CUT.out.right (fun x x1 => PI2.out.out x (.inr x1)) (by omega) (by omega) (by omega), HS2.out⟩
                have PI3 := hid pi3
                have ST3 := hid st3
                have HS3 := hid hs3
                clear pi3 st3 hs3 HS2
                go_wp2
                go_end0
                exact ⟨rfl, g3, (PIR.out.trans (PI2.out.mono (Nat.le_refl _) (by omega))).trans (PI3.out.mono (by omega) (Nat.le_refl _)), St.cut_join CUT.out PI2.out PI3.out ST2.out ST3.out, HS3.out⟩
            · have hc1 : decide ((p : Int) < (i : Int)) = false := decide_eq_false (by omega)
              by_cases hh : e < q
              · have hh1 : (e : Int) < (q : Int) := by omega
                go_wp2_with fail
                with_reducible refine (rotI_any w0 b n c i m e _ g _ HS.out ha hb' (by omega) hn).mono ?_
                rintro _ w1 ⟨rfl, hs1⟩
                have HS1 := hid hs1
                clear hs1 HS
                obtain ⟨g2, pi2, st2, hs2⟩ : ∃ g2, St.PI p mid (fun x => g (St.rotI i m e x)) g2 ∧ St.Srt R p mid g2 ∧ SI w0 b n g2 _ := ⟨_, St.PI.refl _ _ _, CUT.out.left (by omega) (by omega) (by omega), HS1.out⟩
                have PI2 := hid pi2
                have ST2 := hid st2
                have HS2 := hid hs2
                clear pi2 st2 hs2 HS1
                go_wp2_with fail
                with_reducible refine (HI.out.at_ mid e q g2 _ HNR.out HS2.out (CUT.out.s3.congr fun x x1 _ => PI2.out.out x (.inr x1)) (CUT.out.s4.congr fun x x1 _ => PI2.out.out x (.inr (by omega))) (CUT.out.e2.congr fun x x1 _ => PI2.out.out x (.inr x1)) hf hh h4).mono ?_
                rintro _ w3 ⟨rfl, g3, pi3, st3, hs3⟩
                have PI3 := hid pi3
                have ST3 := hid st3
                have HS3 := hid hs3
                clear pi3 st3 hs3 HS2
                go_wp2
                go_end0
                exact ⟨rfl, g3, (PIR.out.trans (PI2.out.mono (Nat.le_refl _) (by omega))).trans (PI3.out.mono (by omega) (Nat.le_refl _)), St.cut_join CUT.out PI2.out PI3.out ST2.out ST3.out, HS3.out⟩
              · have hh1 : decide ((e : Int) < (q : Int)) = false := decide_eq_false (by omega)
                go_wp2_with fail
                with_reducible refine (rotI_any w0 b n c i m e _ g _ HS.out ha hb' (by omega) hn).mono ?_
                rintro _ w1 ⟨rfl, hs1⟩
                have HS1 := hid hs1
                clear hs1 HS
                obtain ⟨g2, pi2, st2, hs2⟩ : ∃ g2, St.PI p mid (fun x => g (St.rotI i m e x)) g2 ∧ St.Srt R p mid g2 ∧ SI w0 b n g2 _ := ⟨_, St.PI.refl _ _ _, CUT.out.left (by omega) (by omega) (by omega), HS1.out⟩
                have PI2 := hid pi2
                have ST2 := hid st2
                have HS2 := hid hs2
                clear pi2 st2 hs2 HS1
                obtain ⟨g3, pi3, st3, hs3⟩ : ∃ g3, St.PI mid q g2 g3 ∧ St.Srt R mid q g3 ∧ SI w0 b n g3 _ := ⟨_, St.PI.refl _ _ _, CUT.out.right (fun x x1 => PI2.out.out x (.inr x1)) (by omega) (by omega) (by omega), HS2.out⟩
                have PI3 := hid pi3
                have ST3 := hid st3
                have HS3 := hid hs3
                clear pi3 st3 hs3 HS2
                go_wp2
                go_end0
                exact ⟨rfl, g3, (PIR.out.trans (PI2.out.mono (Nat.le_refl _) (by omega))).trans (PI3.out.mono (by omega) (Nat.le_refl _)), St.cut_join CUT.out PI2.out PI3.out ST2.out ST3.out, HS3.out⟩
          · first
            | exfalso; omega
            | have hb1 : decide ((m : Int) < (e : Int)) = false := decide_eq_false (by omega)
              have hd1 : decide ((i : Int) < (mid : Int)) = false := decide_eq_false (by omega)
              have hc1 : (p : Int) < (i : Int) := by omega
              have hf : mid < e := by omega
              have hf1 : (mid : Int) < (e : Int) := by omega
              have hh : e < q := by omega
              have hh1 : (e : Int) < (q : Int) := by omega
              have HS1 : Hid (SI w0 b n (fun x => g (St.rotI i m e x)) wr) := HS.out.congr fun x => by rw [show St.rotI i m e x = x by have := St.rotI_spec i m e x; omega]
              clear HS
              obtain ⟨g2, pi2, st2, hs2⟩ : ∃ g2, St.PI p mid (fun x => g (St.rotI i m e x)) g2 ∧ St.Srt R p mid g2 ∧ SI w0 b n g2 _ := ⟨_, St.PI.refl _ _ _, CUT.out.left (by omega) (by omega) (by omega), HS1.out⟩
              have PI2 := hid pi2
              have ST2 := hid st2
              have HS2 := hid hs2
              clear pi2 st2 hs2 HS1
              go_wp2_with fail
              with_reducible refine (HI.out.at_ mid e q g2 _ HNR.out HS2.out (CUT.out.s3.congr fun x x1 _ => PI2.out.out x (.inr x1)) (CUT.out.s4.congr fun x x1 _ => PI2.out.out x (.inr (by omega))) (CUT.out.e2.congr fun x x1 _ => PI2.out.out x (.inr x1)) hf hh h4).mono ?_
              rintro _ w3 ⟨rfl, g3, pi3, st3, hs3⟩
              have PI3 := hid pi3
              have ST3 := hid st3
              have HS3 := hid hs3
              clear pi3 st3 hs3 HS2
              go_wp2
              go_end0
              exact ⟨rfl, g3, (PIR.out.trans (PI2.out.mono (Nat.le_refl _) (by omega))).trans (PI3.out.mono (by omega) (Nat.le_refl _)), St.cut_join CUT.out PI2.out PI3.out ST2.out ST3.out, HS3.out⟩
        · first
          | exfalso; omega
          | have ha1 : decide ((i : Int) < (m : Int)) = false := decide_eq_false (by omega)
            have hc : p < i := by omega
            have hc1 : (p : Int) < (i : Int) := by omega
            have hf1 : decide ((mid : Int) < (e : Int)) = false := decide_eq_false (by omega)
            by_cases hd : i < mid
            · have hd1 : (i : Int) < (mid : Int) := by omega
              have HS1 : Hid (SI w0 b n (fun x => g (St.rotI i m e x)) wr) := HS.out.congr fun x => by rw [show St.rotI i m e x = x by have := St.rotI_spec i m e x; omega]
              clear HS
              go_wp2_with fail
              with_reducible refine (HI.out.at_ p i mid _ _ HNL.out HS1.out CUT.out.s1 CUT.out.s2 CUT.out.e1 hc hd (by omega)).mono ?_
              rintro _ w2 ⟨rfl, g2, pi2, st2, hs2⟩
              have PI2 := hid pi2
              have ST2 := hid st2
              have HS2 := hid hs2
              clear pi2 st2 hs2 HS1
              obtain ⟨g3, pi3, st3, hs3⟩ : ∃ g3, St.PI mid q g2 g3 ∧ St.Srt R mid q g3 ∧ SI w0 b n g3 _ := ⟨_, St.PI.refl _ _ _, CUT.out.right (fun x x1 => PI2.out.out x (.inr x1)) (by omega) (by omega) (by omega), HS2.out⟩
              have PI3 := hid pi3
              have ST3 := hid st3
              have HS3 := hid hs3
              clear pi3 st3 hs3 HS2
              go_wp2
              go_end0
              exact ⟨rfl, g3, (PIR.out.trans (PI2.out.mono (Nat.le_refl _) (by omega))).trans (PI3.out.mono (by omega) (Nat.le_refl _)), St.cut_join CUT.out PI2.out PI3.out ST2.out ST3.out, HS3.out⟩
            · have hd1 : decide ((i : Int) < (mid : Int)) = false := decide_eq_false (by omega)
              have HS1 : Hid (SI w0 b n (fun x => g (St.rotI i m e x)) wr) := HS.out.congr fun x => by rw [show St.rotI i m e x = x by have := St.rotI_spec i m e x; omega]
              clear HS
              obtain ⟨g2, pi2, st2, hs2⟩ : ∃ g2, St.PI p mid (fun x => g (St.rotI i m e x)) g2 ∧ St.Srt R p mid g2 ∧ SI w0 b n g2 _ := ⟨_, St.PI.refl _ _ _, CUT.out.left (by omega) (by omega) (by omega), HS1.out⟩
              have PI2 := hid pi2
              have ST2 := hid st2
              have HS2 := hid hs2
              clear pi2 st2 hs2 HS1
              obtain ⟨g3, pi3, st3, hs3⟩ : ∃ g3, St.PI mid q g2 g3 ∧ St.Srt R mid q g3 ∧ SI w0 b n g3 _ := ⟨_, St.PI.refl _ _ _, CUT.out.right (fun x x1 => PI2.out.out x (.inr x1)) (by omega) (by omega) (by omega), HS2.out⟩
              have PI3 := hid pi3
              have ST3 := hid st3
              have HS3 := hid hs3
              clear pi3 st3 hs3 HS2
              go_wp2
              go_end0
              exact ⟨rfl, g3, (PIR.out.trans (PI2.out.mono (Nat.le_refl _) (by omega))).trans (PI3.out.mono (by omega) (Nat.le_refl _)), St.cut_join CUT.out PI2.out PI3.out ST2.out ST3.out, HS3.out⟩
theorem symI_any (w0 : World) (b n c : Nat) (cf : Nat → Nat → Int) (V1 V2 : Value) (R : Nat → Nat → Prop) (hC : CmpI w0 b n cf V1 V2) (O : St.Ord (ltI cf) R) (hn : n ≤ 1000) : ∀ N, SymOk w0 b n c V1 V2 R N
  | 0 => fun p m q g w h0 H h1 h2 he h12 h3 h4 => by omega
  | N + 1 => fun p m q g w h0 H h1 h2 he h12 h3 h4 => by
    by_cases ha : m = p + 1
    · exact symI_left w0 b n c p m q cf V1 V2 R g w hC O H h2 he ha h3 h4 hn
    · by_cases hb : q = m + 1
      · exact symI_right w0 b n c p m q cf V1 V2 R g w hC O H h1 he hb (by omega) h4 hn
      · exact symI_mid w0 b n c p m q N cf V1 V2 R g w hC O H (symI_any w0 b n c cf V1 V2 R hC O hn N) h0 h1 h2 he (by omega) (by omega) h4 hn
end Go.Proofs.Ytgkagigagcamoaa


/-
The contract of slices.SortStableFunc at []int, with turn.order's closure.
-/
namespace Go.Proofs.Ytgkagigagcamoaa
open Go.RowKit

/-- What a stable sort of n numbers 0, 1, .. leaves. -/
def DoneI (w0 : World) (b n : Nat) (R : Nat → Nat → Prop) (e : Ending) (w' : World) : Prop :=
  e = .returned (.tuple #[]) ∧ ∃ h, St.PI 0 n id h ∧ St.Srt R 0 n h ∧ SI w0 b n h w'
set_option maxHeartbeats 1000000 in
theorem stabI_any (w0 : World) (b n c : Nat) (cf : Nat → Nat → Int) (V1 V2 : Value) (R : Nat → Nat → Prop) (w : World) (hC : CmpI w0 b n cf V1 V2) (O : St.Ord (ltI cf) R) (H : SI w0 b n id w) (hn : n ≤ 1000) :
    Calls Try.prog 89 #[.slice (some ⟨b, 0, none⟩) n c, .int .i64 (n : Int), .func (.func 86) #[] #[V1, V2]] w (DoneI w0 b n R) := by
  have HH := hid H
  have HC := hid hC
  clear H hC
  go_enter Try.func89, Try.ntmps89
  go_wp2
  go_loopw [7, 8] (fun x y wr => ∃ p q : Nat, x = .int .i64 p ∧ y = .int .i64 q ∧ q = p + 20 ∧ Hid (∃ g, St.P1 R n p g ∧ SI w0 b n g wr)) (fun x y _ => n + 20 - (intOf y).toNat)
  case atStart => exact ⟨0, 20, rfl, rfl, rfl, hid ⟨id, St.P1.start R n, HH.out⟩⟩
  case round =>
    clear HH
    obtain ⟨p, q, rfl, rfl, hq, HR⟩ := hrel
    obtain ⟨g, hp1, hs⟩ := HR.out
    have HP := hid hp1
    have HS := hid hs
    have hle := hp1.le
    have HQ := hid hq
    clear HR hp1 hs
    by_cases hqn : q ≤ n
    · have hqn' : (q : Int) ≤ (n : Int) := by omega
      have hqp : p ≤ q := by omega
      clear hq
      go_wp2_with fail
      with_reducible refine (insI_any w0 b n c p q cf V1 V2 R g _ HC.out O HS.out (HP.out.inc q) hqp hqn hn).mono ?_
      rintro e w1 ⟨rfl, g2, hpi, hsr, hs2⟩
      have HPI := hid hpi
      have HSR := hid hsr
      have HS2 := hid hs2
      clear hpi hsr hs2
      go_wp2
      go_roundw
      case measure => simp [intOf]; omega
      case rel =>
        refine ⟨q, q + 20, rfl, by go_num, rfl, hid ⟨g2, ?_, HS2.out⟩⟩
        have hq := HQ.out
        have h1 := HPI.out
        have h2 := HSR.out
        rw [hq] at h1 h2 ⊢
        exact HP.out.step (by omega) h1 h2
    · have hqn' : decide ((q : Int) ≤ (n : Int)) = false := decide_eq_false (by omega)
      clear hq
      go_wp2_with fail
      with_reducible refine (insI_any w0 b n c p n cf V1 V2 R g _ HC.out O HS.out (HP.out.inc n) hle (Nat.le_refl _) hn).mono ?_
      rintro e w1 ⟨rfl, g2, hpi, hsr, hs2⟩
      have HBK : Hid (St.BlkOk R 20 n g2) := HP.out.last (by have := HQ.out; omega) hpi hsr
      have HS2 := hid hs2
      clear hpi hsr hs2 HP HS
      go_wp2
      go_loopw [6] (fun x wr => ∃ z : Nat, x = .int .i64 z ∧ 0 < z ∧ z ≤ 2000 ∧ Hid (∃ g, St.BlkOk R z n g ∧ SI w0 b n g wr)) (fun x _ => n - (intOf x).toNat)
      case atStart => exact ⟨20, rfl, by omega, by omega, hid ⟨g2, HBK.out, HS2.out⟩⟩
      case round =>
        clear HBK HS2
        obtain ⟨z, rfl, hz0, hz1, HR⟩ := hrel
        obtain ⟨g3, hbk, hs3⟩ := HR.out
        have HBK := hid hbk
        have HS3 := hid hs3
        clear HR hbk hs3
        by_cases hzn : z < n
        · have hzn' : (z : Int) < (n : Int) := by omega
          obtain ⟨zz, hzz⟩ : ∃ zz, zz = 2 * z := ⟨_, rfl⟩
          have ezz : (2 : Int) * (z : Int) = (zz : Int) := by omega
          have ezz2 : (z : Int) * (2 : Int) = (zz : Int) := by omega
          have hzzn : zz ≤ 2000 := by omega
          have HZZ := hid hzz
          clear hzz
          go_wp2
          go_loopw [7, 8] (fun x y wr => ∃ p q : Nat, x = .int .i64 p ∧ y = .int .i64 q ∧ q = p + zz ∧ p ≤ n ∧ Hid (∃ g, St.Blk R z n p g ∧ SI w0 b n g wr)) (fun x y _ => n + zz - (intOf y).toNat)
          case atStart => exact ⟨0, zz, rfl, rfl, by omega, by omega, hid ⟨g3, HBK.out.start hz0, HS3.out⟩⟩
          case round =>
            clear HS3
            obtain ⟨p2, q2, rfl, rfl, hq2, hp2n, HR⟩ := hrel
            obtain ⟨g4, hb4, hs4⟩ := HR.out
            have HB4 := hid hb4
            have HS4 := hid hs4
            have HQ2 := hid hq2
            obtain ⟨m, hm⟩ : ∃ m, m = p2 + z := ⟨_, rfl⟩
            have em : (p2 : Int) + (z : Int) = (m : Int) := by omega
            have hmb : m ≤ 2000 := by omega
            have HM := hid hm
            clear HR hb4 hs4
            by_cases hqn2 : q2 ≤ n
            · have hqn2' : (q2 : Int) ≤ (n : Int) := by omega
              obtain ⟨a1, a2, a3⟩ := HB4.out.ask (m := m) (b := q2) hm (by have := HZZ.out; omega) (by have := HZZ.out; omega)
              have A1 := hid a1
              have A2 := hid a2
              have A3 := hid a3
              have hpm : p2 < m := by omega
              have hmq : m < q2 := by have := HZZ.out; omega
              clear hq2 hm a1 a2 a3
              go_wp2_with fail
              with_reducible refine ((symI_any w0 b n c cf V1 V2 R HC.out O hn (q2 - p2)).at_ p2 m q2 g4 _ (Nat.le_refl _) HS4.out A1.out A2.out A3.out hpm hmq hqn2).mono ?_
              rintro e w2 ⟨rfl, g5, hpi, hsr, hs5⟩
              have HPI := hid hpi
              have HSR := hid hsr
              have HS5 := hid hs5
              have hq2b : q2 + zz ≤ 4000 := by omega
              clear hpi hsr hs5
              go_wp2
              go_roundw
              case measure => simp [intOf]; omega
              case rel =>
                have := HZZ.out
                have := HQ2.out
                exact ⟨q2, q2 + zz, rfl, by first | rfl | go_num, rfl, hqn2, hid ⟨g5, HB4.out.step (by omega) hqn2 HPI.out HSR.out, HS5.out⟩⟩
            · have hqn2' : decide ((q2 : Int) ≤ (n : Int)) = false := decide_eq_false (by omega)
              by_cases hmn : m < n
              · have hmn' : (m : Int) < (n : Int) := by omega
                obtain ⟨a1, a2, a3⟩ := HB4.out.ask (m := m) (b := n) hm (by omega) (by have := HZZ.out; omega)
                have A1 := hid a1
                have A2 := hid a2
                have A3 := hid a3
                have hpm : p2 < m := by omega
                clear hq2 hm a1 a2 a3
                go_wp2_with fail
                with_reducible refine ((symI_any w0 b n c cf V1 V2 R HC.out O hn (n - p2)).at_ p2 m n g4 _ (Nat.le_refl _) HS4.out A1.out A2.out A3.out hpm hmn (Nat.le_refl _)).mono ?_
                rintro e w2 ⟨rfl, g5, hpi, hsr, hs5⟩
                have HPI := hid hpi
                have HSR := hid hsr
                have HS5 := hid hs5
                clear hpi hsr hs5
                go_wp2
                go_roundw
                case measure => have := HZZ.out; simp [intOf]; omega
                case rel =>
                  have hz2 := HZZ.out
                  have := HQ2.out
                  refine ⟨zz, by first | rfl | go_num, by omega, by omega, hid ⟨g5, ?_, HS5.out⟩⟩
                  rw [hz2]
                  exact HB4.out.last (by omega) HPI.out HSR.out hp2n
              · have hmn' : decide ((m : Int) < (n : Int)) = false := decide_eq_false (by omega)
                clear hq2 hm
                go_wp2
                go_roundw
                case measure => have := HZZ.out; simp [intOf]; omega
                case rel =>
                  have hz2 := HZZ.out
                  have := HQ2.out
                  have hm := HM.out
                  refine ⟨zz, by first | rfl | go_num, by omega, by omega, hid ⟨g4, ?_, HS4.out⟩⟩
                  rw [hz2]
                  exact HB4.out.last (by omega) (St.PI.refl _ _ _) (HB4.out.tail (by omega)) hp2n
        · have hzn' : decide ((z : Int) < (n : Int)) = false := decide_eq_false (by omega)
          go_wp2
          go_end0
          exact ⟨rfl, g3, HBK.out.all, HBK.out.end_ (by omega), HS3.out⟩
theorem sortI_any (w0 : World) (b n c : Nat) (cf : Nat → Nat → Int) (V1 V2 : Value) (R : Nat → Nat → Prop) (w : World) (hC : CmpI w0 b n cf V1 V2) (O : St.Ord (ltI cf) R) (H : SI w0 b n id w) (hn : n ≤ 1000) :
    Calls Try.prog 85 #[.slice (some ⟨b, 0, none⟩) n c, .func (.func 86) #[] #[V1, V2]] w (DoneI w0 b n R) := by
  have HH := hid H
  have HC := hid hC
  clear H hC
  go_enter Try.func85, Try.ntmps85
  go_wp2_with fail
  with_reducible refine (stabI_any w0 b n c cf V1 V2 R _ HC.out O HH.out hn).mono ?_
  rintro e w1 ⟨rfl, g, h1, h2, h3⟩
  have A1 := hid h1
  have A2 := hid h2
  have A3 := hid h3
  clear h1 h2 h3
  go_wp2
  go_end0
  exact ⟨rfl, g, A1.out, A2.out, A3.out⟩
end Go.Proofs.Ytgkagigagcamoaa

