/-
The contract of a helper of slices.Sort at []byte: the partition of what equals the pivot.
-/
import Derived.Test.YtljpjjokfkbdcaaBSort3
namespace Go.Proofs.Ytljpjjokfkbdcaa
open Go.RowKit

/-- The partition under way: [a, i) is not greater than the value at a, [j, d) is greater. -/
structure Pe (v a d i j : Nat) (h : Nat → Nat) : Prop where
  pv : h a = v
  lo : a + 1 ≤ i
  ij : i ≤ j
  jd : j ≤ d
  le : ∀ k, a ≤ k → k < i → h k ≤ h a
  gt : ∀ k, j ≤ k → k < d → h a < h k
theorem Pe.start {v a d : Nat} (h : Nat → Nat) (had : a < d) (hv : h a = v) : Pe v a d (a + 1) d h := ⟨hv, Nat.le_refl _, had, Nat.le_refl _, fun k h1 h2 => by rw [show k = a by omega]; exact Nat.le_refl _, fun k h1 h2 => by omega⟩
theorem Pe.incI {v a d i j : Nat} {h : Nat → Nat} (p : Pe v a d i j h) (hij : i < j) (hl : ¬ h a < h i) : Pe v a d (i + 1) j h :=
  ⟨p.pv, by have := p.lo; omega, hij, p.jd, fun k h1 h2 => by by_cases e : k = i; (· rw [e]; omega); exact p.le k h1 (by omega), p.gt⟩
theorem Pe.decJ {v a d i j : Nat} {h : Nat → Nat} (p : Pe v a d i (j + 1) h) (hij : i < j + 1) (hl : h a < h j) : Pe v a d i j h :=
  ⟨p.pv, p.lo, by omega, by have := p.jd; omega, p.le, fun k h1 h2 => by by_cases e : k = j; (· rw [e]; exact hl); exact p.gt k (by omega) h2⟩
theorem Pe.swap {v a d i j : Nat} {h : Nat → Nat} (p : Pe v a d i (j + 1) h) (hij : i < j) (h1 : h a < h i) (h2 : ¬ h a < h j) : Pe v a d (i + 1) j (fun x => h (St.swI i j x)) := by
  have hlo := p.lo
  have hjd := p.jd
  have e0 : ∀ x, x ≠ i → x ≠ j → St.swI i j x = x := fun x h1 h2 => by have := St.swI_spec i j x; omega
  have e1 : St.swI i j i = j := by have := St.swI_spec i j i; omega
  have e2 : St.swI i j j = i := by have := St.swI_spec i j j; omega
  refine ⟨by show h (St.swI i j a) = v; rw [e0 a (by omega) (by omega)]; exact p.pv, by omega, by omega, by omega, fun k k1 k2 => ?_, fun k k1 k2 => ?_⟩
  · show h (St.swI i j k) ≤ h (St.swI i j a)
    rw [e0 a (by omega) (by omega)]
    by_cases e : k = i
    · rw [e, e1]; omega
    · rw [e0 k e (by omega)]; exact p.le k k1 (by omega)
  · show h (St.swI i j a) < h (St.swI i j k)
    rw [e0 a (by omega) (by omega)]
    by_cases e : k = j
    · rw [e, e2]; exact h1
    · rw [e0 k (by omega) e]; exact p.gt k (by omega) k2
set_option maxRecDepth 100000 in
set_option maxHeartbeats 8000000 in
theorem eqB_any (w0 : World) (b n c p q m : Nat) (g : Nat → Nat) (w : World) (H : SB w0 b n g w) (h1 : p < q) (h2 : q ≤ n) (hpm : p ≤ m) (hmq : m < q) (hn : n ≤ 1000) :
    Calls Try.prog 47 #[.slice (some ⟨b, 0, none⟩) n c, .int .i64 (p : Int), .int .i64 (q : Int), .int .i64 (m : Int)] w fun e w' => ∃ (k : Nat) (h : Nat → Nat), e = .returned (.int .i64 (k : Int)) ∧ Bs.PB p q g h ∧ Pe (g m) p q k k h ∧ SB w0 b n h w' := by
  have hpn : p < n := by omega
  have hmn : m < n := by omega
  have hpn' : (p : Int) < (n : Int) := by omega
  have hmn' : (m : Int) < (n : Int) := by omega
  have cp := H.row p hpn
  have cm := H.row m hmn
  have fp := H.fz p hpn
  have fm := H.fz m hmn
  obtain ⟨g1, hg1⟩ : ∃ g1 : Nat → Nat, g1 = fun x => g (St.swI p m x) := ⟨_, rfl⟩
  have hv1 : g1 p = g m := by rw [hg1]; show g (St.swI p m p) = g m; rw [show St.swI p m p = m by have := St.swI_spec p m p; omega]
  generalize g m = v at hv1 ⊢
  have HPB : Hid (Bs.PB p q g g1) := by rw [hg1]; exact Bs.PB.sw g (Nat.le_refl _) h1 hpm hmq
  have R0 := hid (H.swap (h := g1) p m hpn hmn (fun x => by rw [hg1]))
  obtain ⟨X, hX⟩ : ∃ X, X = g p := ⟨_, rfl⟩
  obtain ⟨Y, hY⟩ : ∃ Y, Y = g m := ⟨_, rfl⟩
  rw [← hX] at cp R0
  rw [← hY] at cm R0
  obtain ⟨U, hU⟩ := H.second (i := p) (j := m) hmn (.int .u8 (Y : Int))
  obtain ⟨jj, hjj⟩ : ∃ jj, q = jj + 1 := ⟨q - 1, by omega⟩
  have ejj : (q : Int) - 1 = (jj : Int) := by omega
  obtain ⟨i, hi⟩ : ∃ i, i = p + 1 := ⟨_, rfl⟩
  have ei : (p : Int) + 1 = (i : Int) := by omega
  have HPT : Hid (Pe v p q i (jj + 1) g1) := by rw [hi, ← hjj]; exact Pe.start g1 h1 hv1
  have hib : i ≤ 1001 := by omega
  have HI := hid hi
  have HJJ := hid hjj
  clear hX hY hjj hg1 hi
  go_enter Try.func47, Try.ntmps47
  go_wp2
  go_region
  have HSB : Hid (SB w0 b n g1 _) := hid (R0.out 1)
  clear R0 cp cm fp fm hU H
  go_wp2
  go_loopw [9, 10] (fun x y wr => ∃ i jj : Nat, x = .int .i64 (i : Int) ∧ y = .int .i64 (jj : Int) ∧ Hid (∃ h, Bs.PB p q g h ∧ Pe v p q i (jj + 1) h ∧ SB w0 b n h wr)) (fun x y _ => (intOf y).toNat + 1 - (intOf x).toNat)
  case atStart => exact ⟨i, jj, by first | rfl | go_num, rfl, hid ⟨g1, HPB.out, HPT.out, HSB.out⟩⟩
  case round =>
    clear HPB HPT HSB
    obtain ⟨i, jj, rfl, rfl, HR⟩ := hrel
    obtain ⟨h, hpb, hpt, hsb⟩ := HR.out
    have HPB := hid hpb
    have HPT := hid hpt
    have HSB := hid hsb
    clear HR hpb hpt hsb
    go_wp2
    obtain ⟨i0, hi0⟩ : ∃ i0, i0 = i := ⟨_, rfl⟩
    obtain ⟨jj0, hjj0⟩ : ∃ jj0, jj0 = jj := ⟨_, rfl⟩
    have HI0 := hid hi0
    have HJ0 := hid hjj0
    have hii0 : i0 ≤ i := by omega
    clear hi0 hjj0
    go_loopw [9] (fun x wr => ∃ i : Nat, x = .int .i64 (i : Int) ∧ i0 ≤ i ∧ Hid (Pe v p q i (jj + 1) h) ∧ Hid (SB w0 b n h wr)) (fun x _ => q - (intOf x).toNat)
    case atStart => exact ⟨i, by first | rfl | go_num, hii0, HPT, HSB⟩
    case round =>
      clear HPT HSB hii0
      obtain ⟨i, rfl, hii0, HPT, HSB⟩ := hrel
      have ilo := HPT.out.lo
      have iij := HPT.out.ij
      have ijd := HPT.out.jd
      have cp := HSB.out.row p hpn
      obtain ⟨P, hP⟩ : ∃ P, P = h p := ⟨_, rfl⟩
      rw [← hP] at cp
      have HPP := hid hP
      by_cases hgo : i ≤ jj ∧ ¬ h p < h i
      · have hij := hgo.1
        have hij' : (i : Int) ≤ (jj : Int) := by omega
        have hin : i < n := by omega
        have hin' : (i : Int) < (n : Int) := by omega
        have ci := HSB.out.row i hin
        obtain ⟨X, hX⟩ : ∃ X, X = h i := ⟨_, rfl⟩
        rw [← hX] at ci
        have hl : ¬ P < X := by rw [hX, hP]; exact hgo.2
        have HCC := hid (fun W => less_any P X W)
        rw [decide_eq_false hl] at HCC
        have HPT2 := hid (HPT.out.incI (by omega) hgo.2)
        clear hP hX hl hgo HPT
        go_wp2
        go_quiet ((go_at_call 46; exact (HCC.out _).mono fun e w' h => ⟨h.1, quiet_any h.2⟩))
        go_wp2
        go_roundw
        case measure => simp [intOf]; omega
        case rel => exact ⟨i + 1, by go_num, by omega, HPT2, hid (HSB.out.drewN _)⟩
      · have HE : Hid (i ≤ jj → h p < h i) := fun h1 => Decidable.byContradiction fun h2 => hgo ⟨h1, h2⟩
        by_cases hij : i ≤ jj
        case' pos =>
          have hij' : (i : Int) ≤ (jj : Int) := by omega
          have hin : i < n := by omega
          have hin' : (i : Int) < (n : Int) := by omega
          have ci := HSB.out.row i hin
          obtain ⟨X, hX⟩ : ∃ X, X = h i := ⟨_, rfl⟩
          rw [← hX] at ci
          have hl : P < X := by rw [hX, hP]; exact HE.out hij
          have HCC := hid (fun W => less_any P X W)
          rw [decide_eq_true hl] at HCC
          clear hP hX hl hgo
          go_wp2
          go_quiet ((go_at_call 46; exact (HCC.out _).mono fun e w' h => ⟨h.1, quiet_any h.2⟩))
          go_wp2
          clear ci hin' HCC
        case' neg =>
          have hij' : decide ((i : Int) ≤ (jj : Int)) = false := decide_eq_false (by omega)
          have hij2 : decide (i ≤ jj) = false := decide_eq_false hij
          clear hP hgo
          go_wp2
          go_quiet (fail)
          go_wp2
        all_goals
          clear hij
          have HSBD := hid (fun d => HSB.out.drewN d)
          clear HSB
          go_loopw [10] (fun x wr => ∃ jj : Nat, x = .int .i64 (jj : Int) ∧ jj ≤ jj0 ∧ Hid (Pe v p q i (jj + 1) h) ∧ Hid (i ≤ jj → h p < h i) ∧ Hid (SB w0 b n h wr)) (fun x _ => (intOf x).toNat)
          case atStart => exact ⟨jj, rfl, by have := HJ0.out; omega, HPT, HE, hid (HSBD.out _)⟩
          case round =>
            clear HPT HSBD HE
            obtain ⟨jj, rfl, hjj0, HPT, HE, HSB⟩ := hrel
            have ilo := HPT.out.lo
            have iij := HPT.out.ij
            have ijd := HPT.out.jd
            have cp := HSB.out.row p hpn
            obtain ⟨P, hP⟩ : ∃ P, P = h p := ⟨_, rfl⟩
            rw [← hP] at cp
            have HPP := hid hP
            by_cases hgo : i ≤ jj ∧ h p < h jj
            · have hij := hgo.1
              have hij' : (i : Int) ≤ (jj : Int) := by omega
              have hjn : jj < n := by omega
              have hjn' : (jj : Int) < (n : Int) := by omega
              have cj := HSB.out.row jj hjn
              obtain ⟨X, hX⟩ : ∃ X, X = h jj := ⟨_, rfl⟩
              rw [← hX] at cj
              have hl : P < X := by rw [hX, hP]; exact hgo.2
              have HCC := hid (fun W => less_any P X W)
              rw [decide_eq_true hl] at HCC
              have HPT2 := hid (HPT.out.decJ (by omega) hgo.2)
              obtain ⟨j1, hj1⟩ : ∃ j1, jj = j1 + 1 := ⟨jj - 1, by omega⟩
              have ej1 : (jj : Int) - 1 = (j1 : Int) := by omega
              have HJ1 := hid hj1
              clear hP hX hl hgo HPT hj1
              go_wp2
              go_quiet ((go_at_call 46; exact (HCC.out _).mono fun e w' h => ⟨h.1, quiet_any h.2⟩))
              go_wp2
              go_roundw
              case measure => have := HJ1.out; simp [intOf]; omega
              case rel =>
                have hj1 := HJ1.out
                refine ⟨j1, by first | rfl | go_num, by omega, by rw [← hj1]; exact HPT2, hid (fun h1 => HE.out (by omega)), hid (HSB.out.drewN _)⟩
            · have HF : Hid (i ≤ jj → ¬ h p < h jj) := fun h1 h2 => hgo ⟨h1, h2⟩
              by_cases hij : i ≤ jj
              · have hij' : (i : Int) ≤ (jj : Int) := by omega
                have hjn : jj < n := by omega
                have hjn' : (jj : Int) < (n : Int) := by omega
                have cj := HSB.out.row jj hjn
                obtain ⟨X, hX⟩ : ∃ X, X = h jj := ⟨_, rfl⟩
                rw [← hX] at cj
                have hl : ¬ P < X := by rw [hX, hP]; exact HF.out hij
                have HCC := hid (fun W => less_any P X W)
                rw [decide_eq_false hl] at HCC
                clear hP hX hl hgo
                go_wp2
                go_quiet ((go_at_call 46; exact (HCC.out _).mono fun e w' h => ⟨h.1, quiet_any h.2⟩))
                clear HPP cp cj hjn hjn' HCC hij'
                have hin : i < n := by omega
                have hjn : jj < n := by omega
                have hin' : (i : Int) < (n : Int) := by omega
                have hjn' : (jj : Int) < (n : Int) := by omega
                have hne : i < jj := by
                  have h1 := HE.out hij
                  have h2 := HF.out hij
                  by_cases e : i = jj
                  · rw [e] at h1; exact absurd h1 h2
                  · omega
                have ci := HSB.out.row i hin
                have cj := HSB.out.row jj hjn
                have fi := HSB.out.fz i hin
                have fj := HSB.out.fz jj hjn
                have R := hid (HSB.out.swap (h := fun x => h (St.swI i jj x)) i jj hin hjn (fun x => rfl))
                obtain ⟨X, hX⟩ : ∃ X, X = h i := ⟨_, rfl⟩
                obtain ⟨Y, hY⟩ : ∃ Y, Y = h jj := ⟨_, rfl⟩
                rw [← hX] at ci R
                rw [← hY] at cj R
                have HPT2 := hid (HPT.out.swap hne (HE.out hij) (HF.out hij))
                have HPB2 := hid (HPB.out.trans (Bs.PB.sw h (i := i) (j := jj) (by omega) (by omega) (by omega) (by omega)))
                have hneij : i ≠ jj := by omega
                obtain ⟨j1, hj1⟩ : ∃ j1, jj = j1 + 1 := ⟨jj - 1, by omega⟩
                have ej1 : (jj : Int) - 1 = (j1 : Int) := by omega
                have HJ1 := hid hj1
                have hij' : decide ((jj : Int) < (i : Int)) = false := decide_eq_false (by omega)
                clear hX hY HPT HE HF hj1
                go_wp2
                go_region
                go_wp2
                go_roundw
                case measure => have := HJ1.out; have := HI0.out; have := HJ0.out; simp [intOf]; omega
                case rel =>
                  have hj1 := HJ1.out
                  exact ⟨i + 1, j1, by go_num, by first | rfl | go_num, hid ⟨_, HPB2.out, by rw [← hj1]; exact HPT2.out, by first | exact R.out _ | exact R.out 1⟩⟩
              · have hij' : decide ((i : Int) ≤ (jj : Int)) = false := decide_eq_false (by omega)
                have hij2 : decide (i ≤ jj) = false := decide_eq_false hij
                clear hP hgo
                go_wp2
                go_quiet (fail)
                clear HPP cp hij' hij2
                have ejj : i = jj + 1 := by omega
                have HPT2 := HPT.out
                rw [ejj] at HPT2
                have HFIN := hid HPT2
                have hij' : (jj : Int) < (i : Int) := by omega
                have hij2 : decide ((i : Int) ≤ (jj : Int)) = false := decide_eq_false (by omega)
                have EJ := hid ejj
                clear HPT HPT2 ejj HE HF
                go_wp2
                go_ret
                exact ⟨i, h, rfl, HPB.out, by rw [EJ.out]; exact HFIN.out, HSB.out.drewN _⟩
end Go.Proofs.Ytljpjjokfkbdcaa
