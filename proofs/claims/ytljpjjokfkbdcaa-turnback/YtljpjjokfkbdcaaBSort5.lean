/-
The contract of a helper of slices.Sort at []byte: the try to sort by few exchanges.
-/
import Derived.Test.YtljpjjokfkbdcaaBSort2
namespace Go.Proofs.Ytljpjjokfkbdcaa
open Go.RowKit

theorem Bs.Sb.more {a i : Nat} {h : Nat → Nat} (s : Bs.Sb a i h) (hl : ¬ h i < h (i - 1)) (hi : a < i) : Bs.Sb a (i + 1) h := fun x y h1 h2 h3 => by
  by_cases hy : y = i
  · subst hy
    by_cases hx : x = y - 1
    · rw [hx]; omega
    · have := s x (y - 1) h1 (by omega) (by omega)
      omega
  · exact s x y h1 h2 (by omega)
theorem Bs.Sb.apart {a i j k : Nat} {h : Nat → Nat} (s : Bs.Sb a i h) (hj : i ≤ j) (hk : i ≤ k) : Bs.Sb a i (fun x => h (St.swI j k x)) := fun x y h1 h2 h3 => by
  have e1 : St.swI j k x = x := by have := St.swI_spec j k x; omega
  have e2 : St.swI j k y = y := by have := St.swI_spec j k y; omega
  show h (St.swI j k x) ≤ h (St.swI j k y)
  rw [e1, e2]
  exact s x y h1 h2 h3
/-- What the try hands back. -/
def TryB (w0 : World) (b n p q : Nat) (g : Nat → Nat) (e : Ending) (w' : World) : Prop :=
  ∃ h, ((e = .returned (.bool true) ∧ Bs.Sb p q h) ∨ e = .returned (.bool false)) ∧ Bs.PB p q g h ∧ SB w0 b n h w'
set_option maxRecDepth 100000 in
set_option maxHeartbeats 8000000 in
theorem tryB_any (w0 : World) (b n c p q : Nat) (g : Nat → Nat) (w : World) (H : SB w0 b n g w) (h1 : p + 12 < q) (h2 : q ≤ n) (hl : Bs.Lo p q g) (hn : n ≤ 1000) :
    Calls Try.prog 45 #[.slice (some ⟨b, 0, none⟩) n c, .int .i64 (p : Int), .int .i64 (q : Int)] w (TryB w0 b n p q g) := by
  have HH := hid H
  have HLO := hid hl
  obtain ⟨L, hL⟩ : ∃ L, L = q - p := ⟨_, rfl⟩
  have eL : (q : Int) - (p : Int) = (L : Int) := by omega
  have hLb : L ≤ 1000 := by omega
  clear H hl hL
  go_enter Try.func45, Try.ntmps45
  go_wp2
  go_loopw [8, 7] (fun x y wr => ∃ j i : Nat, x = .int .i64 (j : Int) ∧ y = .int .i64 (i : Int) ∧ j ≤ 5 ∧ p < i ∧ i ≤ q ∧ Hid (∃ h, Bs.PB p q g h ∧ Bs.Sb p i h ∧ SB w0 b n h wr)) (fun x _ _ => 5 - (intOf x).toNat)
  case atStart => exact ⟨0, p + 1, rfl, by go_num, by omega, by omega, by omega, hid ⟨g, Bs.PB.refl _ _ _, fun x y x1 x2 x3 => by omega, HH.out⟩⟩
  case round =>
    clear HH
    obtain ⟨j, i, rfl, rfl, hj5, hpi, hiq, HR⟩ := hrel
    obtain ⟨h, hpb, hsrt, hsb⟩ := HR.out
    have HPB := hid hpb
    have HST := hid hsrt
    have HSB := hid hsb
    clear HR hpb hsrt hsb
    by_cases hj : j < 5
    · have hj' : (j : Int) < 5 := by omega
      go_wp2
      go_loopw [7] (fun x wr => ∃ i : Nat, x = .int .i64 (i : Int) ∧ p < i ∧ i ≤ q ∧ Hid (Bs.Sb p i h) ∧ Hid (SB w0 b n h wr)) (fun x _ => q - (intOf x).toNat)
      case atStart => exact ⟨i, rfl, hpi, hiq, HST, HSB⟩
      case round =>
        clear HST HSB hpi hiq
        obtain ⟨i, rfl, hpi, hiq, HST, HSB⟩ := hrel
        obtain ⟨i1, hi1⟩ : ∃ i1, i = i1 + 1 := ⟨i - 1, by omega⟩
        have ei1 : (i : Int) - 1 = (i1 : Int) := by omega
        have HI1 := hid hi1
        have wi1 : IntKind.i64.wrap (i1 : Int) = (i1 : Int) := IntWalk.i64_in _ (by omega)
        have zi1 : (0 : Int) ≤ (i1 : Int) := by omega
        have hi1n : i1 < n := by omega
        have hi1n' : (i1 : Int) < (n : Int) := by omega
        clear hi1
        by_cases hiq2 : i < q
        · have hiq2' : (i : Int) < (q : Int) := by omega
          have hin : i < n := by omega
          have hin' : (i : Int) < (n : Int) := by omega
          have ci := HSB.out.row i hin
          have ci1 := HSB.out.row i1 hi1n
          have fi := HSB.out.fz i hin
          have fi1 := HSB.out.fz i1 hi1n
          obtain ⟨hs1, hhs1⟩ : ∃ hs1 : Nat → Nat, hs1 = fun x => h (St.swI i i1 x) := ⟨_, rfl⟩
          have HPB1 : Hid (Bs.PB p q g hs1) := by rw [hhs1]; exact HPB.out.trans (Bs.PB.sw h (by omega) (by omega) (by have := HI1.out; omega) (by omega))
          have HIB : Hid (Bs.Ib p i1 i1 hs1) := by
            refine Bs.Ib.start ?_
            rw [hhs1]
            exact Bs.Sb.apart (fun x y x1 x2 x3 => HST.out x y x1 x2 (by have := HI1.out; omega)) (by have := HI1.out; omega) (Nat.le_refl _)
          have R := hid (HSB.out.swap (h := hs1) i i1 hin hi1n (fun x => by rw [hhs1]))
          obtain ⟨d1, hd1⟩ : ∃ d1, d1 = i - p := ⟨_, rfl⟩
          obtain ⟨d2, hd2⟩ : ∃ d2, d2 = q - i := ⟨_, rfl⟩
          have ed1 : (i : Int) - (p : Int) = (d1 : Int) := by omega
          have ed2 : (q : Int) - (i : Int) = (d2 : Int) := by omega
          have hd1b : d1 ≤ 1000 := by omega
          have hd2b : d2 ≤ 1000 := by omega
          have HD1 := hid hd1
          clear hd1 hd2 hhs1
          obtain ⟨X, hX⟩ : ∃ X, X = h i := ⟨_, rfl⟩
          obtain ⟨Y, hY⟩ : ∃ Y, Y = h i1 := ⟨_, rfl⟩
          rw [← hX] at ci R
          rw [← hY] at ci1 R
          have HX := hid hX
          have HY := hid hY
          have HCC := hid (fun W => less_any X Y W)
          have hne : i ≠ i1 := by have := HI1.out; omega
          clear hX hY
          by_cases hxy : X < Y
          · rw [decide_eq_true hxy] at HCC
            have hbq : ((i : Int) == (q : Int)) = false := beq_eq_false_iff_ne.2 (by omega)
            clear hxy
            by_cases h50 : L < 50
            · have h50' : (L : Int) < 50 := by omega
              go_wp2
              go_quiet ((go_at_call 46; exact (HCC.out _).mono fun e w' h => ⟨h.1, quiet_d0 h.2⟩))
              go_wp2
              go_ret
              exact ⟨h, .inr rfl, HPB.out, HSB.out.drewN _⟩
            · have h50' : decide ((L : Int) < 50) = false := decide_eq_false (by omega)
              have h502 : decide (L < 50) = false := decide_eq_false h50
              go_wp2
              go_quiet ((go_at_call 46; exact (HCC.out _).mono fun e w' h => ⟨h.1, quiet_d0 h.2⟩))
              go_wp2
              go_region
              by_cases hd12 : 2 ≤ d1
              · have hd12' : (2 : Int) ≤ (d1 : Int) := by omega
                go_wp2
                go_loopw [9] (fun x wq => ∃ jl : Nat, x = .int .i64 (jl : Int) ∧ p ≤ jl ∧ jl ≤ i1 ∧ Hid (∃ hl, Bs.PB p q g hl ∧ Bs.Ib p i1 jl hl ∧ SB w0 b n hl wq)) (fun x _ => (intOf x).toNat)
                case atStart => exact ⟨i1, rfl, by have := HI1.out; omega, Nat.le_refl _, hid ⟨hs1, HPB1.out, HIB.out, by first | exact R.out _ | exact R.out 1⟩⟩
                case round =>
                  clear R HPB1 HIB
                  obtain ⟨jl, rfl, hpjl, hjli, HRL⟩ := hrel
                  obtain ⟨hl, a1, a2, a3⟩ := HRL.out
                  have HPBL := hid a1
                  have HIBL := hid a2
                  have HSL := hid a3
                  clear HRL a1 a2 a3
                  have hi1 := HI1.out
                  by_cases hjl : 1 ≤ jl
                  · have hjl' : (1 : Int) ≤ (jl : Int) := by omega
                    obtain ⟨l1, hl1⟩ : ∃ l1, jl = l1 + 1 := ⟨jl - 1, by omega⟩
                    have el1 : (jl : Int) - 1 = (l1 : Int) := by omega
                    have wl1 : IntKind.i64.wrap (l1 : Int) = (l1 : Int) := IntWalk.i64_in _ (by omega)
                    have zl1 : (0 : Int) ≤ (l1 : Int) := by omega
                    have hjln : jl < n := by omega
                    have hl1n : l1 < n := by omega
                    have hjln' : (jl : Int) < (n : Int) := by omega
                    have hl1n' : (l1 : Int) < (n : Int) := by omega
                    have hnel : jl ≠ l1 := by omega
                    have c1 := HSL.out.row jl hjln
                    have c2 := HSL.out.row l1 hl1n
                    have f1 := HSL.out.fz jl hjln
                    have f2 := HSL.out.fz l1 hl1n
                    have RL := hid (HSL.out.swap (h := fun x => hl (St.swI jl l1 x)) jl l1 hjln hl1n (fun x => rfl))
                    obtain ⟨U, hU⟩ : ∃ U, U = hl jl := ⟨_, rfl⟩
                    obtain ⟨V, hV⟩ : ∃ V, V = hl l1 := ⟨_, rfl⟩
                    rw [← hU] at c1 RL
                    rw [← hV] at c2 RL
                    have HC2 := hid (fun W => less_any U V W)
                    have HL1 := hid hl1
                    by_cases huv : U < V
                    · have hpl : p ≤ l1 := by
                        rcases Nat.lt_or_ge l1 p with hc | hc
                        · exfalso
                          have hlo := (HLO.out.pb HPBL.out) (by omega) jl (by omega) (by omega)
                          rw [show p - 1 = l1 by omega, ← hV, ← hU] at hlo
                          omega
                        · exact hc
                      have HSTP : Hid (Bs.Ib p i1 l1 (fun x => hl (St.swI jl l1 x))) := by
                        have hb := HIBL.out
                        rw [hl1] at hb ⊢
                        exact hb.step hpl (by omega) (by rw [← hl1, ← hU, ← hV]; exact huv)
                      rw [decide_eq_true huv] at HC2
                      clear huv hU hV hl1 hi1
                      go_wp2
                      go_quiet ((go_at_call 46; exact (HC2.out _).mono fun e w' h => ⟨h.1, quiet_d0 h.2⟩))
                      go_wp2
                      go_region
                      go_wp2
                      go_roundw
                      case measure => have := HL1.out; simp [intOf]; omega
                      case rel =>
                        have hl1 := HL1.out
                        exact ⟨l1, by first | rfl | go_num, hpl, by omega, hid ⟨_, HPBL.out.trans (Bs.PB.sw hl (i := jl) (j := l1) (by omega) (by omega) (by omega) (by omega)), HSTP.out, by first | exact RL.out _ | exact RL.out 1⟩⟩
                    · have HSTX : Hid (Bs.Sb p i hl) := by
                        rw [show i = i1 + 1 by omega]
                        rcases Nat.lt_or_ge p jl with hc | hc
                        · have hb := HIBL.out
                          rw [hl1] at hb
                          exact hb.done (by omega) (by omega) (by rw [← hl1, ← hU, ← hV]; exact huv)
                        · have hb := HIBL.out
                          rw [show jl = p by omega] at hb
                          exact hb.low
                      have HPBX := HPBL
                      rw [decide_eq_false huv] at HC2
                      clear huv hU hV hl1 hi1 RL
                      go_wp2
                      go_quiet ((go_at_call 46; exact (HC2.out _).mono fun e w' h => ⟨h.1, quiet_d0 h.2⟩))
                      clear c1 c2 f1 f2 HC2
                      by_cases hd22 : 2 ≤ d2
                      · have hd22' : (2 : Int) ≤ (d2 : Int) := by omega
                        go_wp2
                        go_loopw [10] (fun x wq => ∃ jr : Nat, x = .int .i64 (jr : Int) ∧ i < jr ∧ jr ≤ q ∧ Hid (∃ hr, Bs.PB p q g hr ∧ Bs.Sb p i hr ∧ SB w0 b n hr wq)) (fun x _ => q - (intOf x).toNat)
                        case atStart => exact ⟨i + 1, by go_num, by omega, by omega, hid ⟨_, HPBX.out, HSTX.out, by first | exact HSL.out | exact HSL.out.drewN _⟩⟩
                        case round =>
                          obtain ⟨jr, rfl, hijr, hjrq, HRR⟩ := hrel
                          obtain ⟨hr, a1, a2, a3⟩ := HRR.out
                          have HPBR := hid a1
                          have HSTR := hid a2
                          have HSR := hid a3
                          clear HRR a1 a2 a3
                          by_cases hjr : jr < q
                          · have hjr' : (jr : Int) < (q : Int) := by omega
                            obtain ⟨r1, hr1⟩ : ∃ r1, jr = r1 + 1 := ⟨jr - 1, by omega⟩
                            have er1 : (jr : Int) - 1 = (r1 : Int) := by omega
                            have wr1 : IntKind.i64.wrap (r1 : Int) = (r1 : Int) := IntWalk.i64_in _ (by omega)
                            have zr1 : (0 : Int) ≤ (r1 : Int) := by omega
                            have hjrn : jr < n := by omega
                            have hr1n : r1 < n := by omega
                            have hjrn' : (jr : Int) < (n : Int) := by omega
                            have hr1n' : (r1 : Int) < (n : Int) := by omega
                            have hir1 : i ≤ r1 := by omega
                            have hner : jr ≠ r1 := by omega
                            have c1 := HSR.out.row jr hjrn
                            have c2 := HSR.out.row r1 hr1n
                            have f1 := HSR.out.fz jr hjrn
                            have f2 := HSR.out.fz r1 hr1n
                            have RR := hid (HSR.out.swap (h := fun x => hr (St.swI jr r1 x)) jr r1 hjrn hr1n (fun x => rfl))
                            obtain ⟨U, hU⟩ : ∃ U, U = hr jr := ⟨_, rfl⟩
                            obtain ⟨V, hV⟩ : ∃ V, V = hr r1 := ⟨_, rfl⟩
                            rw [← hU] at c1 RR
                            rw [← hV] at c2 RR
                            have HC2 := hid (fun W => less_any U V W)
                            have HR1 := hid hr1
                            clear hU hV hr1
                            by_cases huv : U < V
                            · rw [decide_eq_true huv] at HC2
                              clear huv
                              go_wp2
                              go_quiet ((go_at_call 46; exact (HC2.out _).mono fun e w' h => ⟨h.1, quiet_d0 h.2⟩))
                              go_wp2
                              go_region
                              go_wp2
                              go_roundw
                              case measure => simp [intOf]; omega
                              case rel => exact ⟨jr + 1, by go_num, by omega, by omega, hid ⟨_, HPBR.out.trans (Bs.PB.sw hr (i := jr) (j := r1) (by omega) (by omega) (by omega) (by omega)), HSTR.out.apart (by omega) hir1, by first | exact RR.out _ | exact RR.out 1⟩⟩
                            · rw [decide_eq_false huv] at HC2
                              clear huv
                              go_wp2
                              go_quiet ((go_at_call 46; exact (HC2.out _).mono fun e w' h => ⟨h.1, quiet_d0 h.2⟩))
                              go_wp2
                              go_roundw
                              case measure => simp [intOf]; omega
                              case rel => exact ⟨j + 1, i, by go_num, rfl, by omega, hpi, by omega, hid ⟨hr, HPBR.out, HSTR.out, by first | exact HSR.out | exact HSR.out.drewN _⟩⟩
                          · have hjr' : decide ((jr : Int) < (q : Int)) = false := decide_eq_false (by omega)
                            go_wp2
                            go_roundw
                            case measure => simp [intOf]; omega
                            case rel => exact ⟨j + 1, i, by go_num, rfl, by omega, hpi, by omega, hid ⟨hr, HPBR.out, HSTR.out, by first | exact HSR.out | exact HSR.out.drewN _⟩⟩
                      · have hd22' : decide ((2 : Int) ≤ (d2 : Int)) = false := decide_eq_false (by omega)
                        have hd222 : decide (2 ≤ d2) = false := decide_eq_false hd22
                        go_wp2
                        go_roundw
                        case measure => simp [intOf]; omega
                        case rel => exact ⟨j + 1, i, by go_num, rfl, by omega, hpi, by omega, hid ⟨_, HPBX.out, HSTX.out, by first | exact HSL.out | exact HSL.out.drewN _⟩⟩
                  · have hjl' : decide ((1 : Int) ≤ (jl : Int)) = false := decide_eq_false (by omega)
                    have hjl2 : decide (1 ≤ jl) = false := decide_eq_false hjl
                    have HSTX : Hid (Bs.Sb p i hl) := by
                      rw [show i = i1 + 1 by omega]
                      have hb := HIBL.out
                      rw [show jl = p by omega] at hb
                      exact hb.low
                    have HPBX := HPBL
                    clear hi1
                    by_cases hd22 : 2 ≤ d2
                    · have hd22' : (2 : Int) ≤ (d2 : Int) := by omega
                      go_wp2
                      go_loopw [10] (fun x wq => ∃ jr : Nat, x = .int .i64 (jr : Int) ∧ i < jr ∧ jr ≤ q ∧ Hid (∃ hr, Bs.PB p q g hr ∧ Bs.Sb p i hr ∧ SB w0 b n hr wq)) (fun x _ => q - (intOf x).toNat)
                      case atStart => exact ⟨i + 1, by go_num, by omega, by omega, hid ⟨_, HPBX.out, HSTX.out, by first | exact HSL.out | exact HSL.out.drewN _⟩⟩
                      case round =>
                        obtain ⟨jr, rfl, hijr, hjrq, HRR⟩ := hrel
                        obtain ⟨hr, a1, a2, a3⟩ := HRR.out
                        have HPBR := hid a1
                        have HSTR := hid a2
                        have HSR := hid a3
                        clear HRR a1 a2 a3
                        by_cases hjr : jr < q
                        · have hjr' : (jr : Int) < (q : Int) := by omega
                          obtain ⟨r1, hr1⟩ : ∃ r1, jr = r1 + 1 := ⟨jr - 1, by omega⟩
                          have er1 : (jr : Int) - 1 = (r1 : Int) := by omega
                          have wr1 : IntKind.i64.wrap (r1 : Int) = (r1 : Int) := IntWalk.i64_in _ (by omega)
                          have zr1 : (0 : Int) ≤ (r1 : Int) := by omega
                          have hjrn : jr < n := by omega
                          have hr1n : r1 < n := by omega
                          have hjrn' : (jr : Int) < (n : Int) := by omega
                          have hr1n' : (r1 : Int) < (n : Int) := by omega
                          have hir1 : i ≤ r1 := by omega
                          have hner : jr ≠ r1 := by omega
                          have c1 := HSR.out.row jr hjrn
                          have c2 := HSR.out.row r1 hr1n
                          have f1 := HSR.out.fz jr hjrn
                          have f2 := HSR.out.fz r1 hr1n
                          have RR := hid (HSR.out.swap (h := fun x => hr (St.swI jr r1 x)) jr r1 hjrn hr1n (fun x => rfl))
                          obtain ⟨U, hU⟩ : ∃ U, U = hr jr := ⟨_, rfl⟩
                          obtain ⟨V, hV⟩ : ∃ V, V = hr r1 := ⟨_, rfl⟩
                          rw [← hU] at c1 RR
                          rw [← hV] at c2 RR
                          have HC2 := hid (fun W => less_any U V W)
                          have HR1 := hid hr1
                          clear hU hV hr1
                          by_cases huv : U < V
                          · rw [decide_eq_true huv] at HC2
                            clear huv
                            go_wp2
                            go_quiet ((go_at_call 46; exact (HC2.out _).mono fun e w' h => ⟨h.1, quiet_d0 h.2⟩))
                            go_wp2
                            go_region
                            go_wp2
                            go_roundw
                            case measure => simp [intOf]; omega
                            case rel => exact ⟨jr + 1, by go_num, by omega, by omega, hid ⟨_, HPBR.out.trans (Bs.PB.sw hr (i := jr) (j := r1) (by omega) (by omega) (by omega) (by omega)), HSTR.out.apart (by omega) hir1, by first | exact RR.out _ | exact RR.out 1⟩⟩
                          · rw [decide_eq_false huv] at HC2
                            clear huv
                            go_wp2
                            go_quiet ((go_at_call 46; exact (HC2.out _).mono fun e w' h => ⟨h.1, quiet_d0 h.2⟩))
                            go_wp2
                            go_roundw
                            case measure => simp [intOf]; omega
                            case rel => exact ⟨j + 1, i, by go_num, rfl, by omega, hpi, by omega, hid ⟨hr, HPBR.out, HSTR.out, by first | exact HSR.out | exact HSR.out.drewN _⟩⟩
                        · have hjr' : decide ((jr : Int) < (q : Int)) = false := decide_eq_false (by omega)
                          go_wp2
                          go_roundw
                          case measure => simp [intOf]; omega
                          case rel => exact ⟨j + 1, i, by go_num, rfl, by omega, hpi, by omega, hid ⟨hr, HPBR.out, HSTR.out, by first | exact HSR.out | exact HSR.out.drewN _⟩⟩
                    · have hd22' : decide ((2 : Int) ≤ (d2 : Int)) = false := decide_eq_false (by omega)
                      have hd222 : decide (2 ≤ d2) = false := decide_eq_false hd22
                      go_wp2
                      go_roundw
                      case measure => simp [intOf]; omega
                      case rel => exact ⟨j + 1, i, by go_num, rfl, by omega, hpi, by omega, hid ⟨_, HPBX.out, HSTX.out, by first | exact HSL.out | exact HSL.out.drewN _⟩⟩
              · have hd12' : decide ((2 : Int) ≤ (d1 : Int)) = false := decide_eq_false (by omega)
                have hd122 : decide (2 ≤ d1) = false := decide_eq_false hd12
                have HSTX : Hid (Bs.Sb p i hs1) := fun x y x1 x2 x3 => by have := HD1.out; omega
                have HPBX := HPB1
                by_cases hd22 : 2 ≤ d2
                · have hd22' : (2 : Int) ≤ (d2 : Int) := by omega
                  go_wp2
                  go_loopw [10] (fun x wq => ∃ jr : Nat, x = .int .i64 (jr : Int) ∧ i < jr ∧ jr ≤ q ∧ Hid (∃ hr, Bs.PB p q g hr ∧ Bs.Sb p i hr ∧ SB w0 b n hr wq)) (fun x _ => q - (intOf x).toNat)
                  case atStart => exact ⟨i + 1, by go_num, by omega, by omega, hid ⟨_, HPBX.out, HSTX.out, by first | exact R.out _ | exact R.out 1⟩⟩
                  case round =>
                    obtain ⟨jr, rfl, hijr, hjrq, HRR⟩ := hrel
                    obtain ⟨hr, a1, a2, a3⟩ := HRR.out
                    have HPBR := hid a1
                    have HSTR := hid a2
                    have HSR := hid a3
                    clear HRR a1 a2 a3
                    by_cases hjr : jr < q
                    · have hjr' : (jr : Int) < (q : Int) := by omega
                      obtain ⟨r1, hr1⟩ : ∃ r1, jr = r1 + 1 := ⟨jr - 1, by omega⟩
                      have er1 : (jr : Int) - 1 = (r1 : Int) := by omega
                      have wr1 : IntKind.i64.wrap (r1 : Int) = (r1 : Int) := IntWalk.i64_in _ (by omega)
                      have zr1 : (0 : Int) ≤ (r1 : Int) := by omega
                      have hjrn : jr < n := by omega
                      have hr1n : r1 < n := by omega
                      have hjrn' : (jr : Int) < (n : Int) := by omega
                      have hr1n' : (r1 : Int) < (n : Int) := by omega
                      have hir1 : i ≤ r1 := by omega
                      have hner : jr ≠ r1 := by omega
                      have c1 := HSR.out.row jr hjrn
                      have c2 := HSR.out.row r1 hr1n
                      have f1 := HSR.out.fz jr hjrn
                      have f2 := HSR.out.fz r1 hr1n
                      have RR := hid (HSR.out.swap (h := fun x => hr (St.swI jr r1 x)) jr r1 hjrn hr1n (fun x => rfl))
                      obtain ⟨U, hU⟩ : ∃ U, U = hr jr := ⟨_, rfl⟩
                      obtain ⟨V, hV⟩ : ∃ V, V = hr r1 := ⟨_, rfl⟩
                      rw [← hU] at c1 RR
                      rw [← hV] at c2 RR
                      have HC2 := hid (fun W => less_any U V W)
                      have HR1 := hid hr1
                      clear hU hV hr1
                      by_cases huv : U < V
                      · rw [decide_eq_true huv] at HC2
                        clear huv
                        go_wp2
                        go_quiet ((go_at_call 46; exact (HC2.out _).mono fun e w' h => ⟨h.1, quiet_d0 h.2⟩))
                        go_wp2
                        go_region
                        go_wp2
                        go_roundw
                        case measure => simp [intOf]; omega
                        case rel => exact ⟨jr + 1, by go_num, by omega, by omega, hid ⟨_, HPBR.out.trans (Bs.PB.sw hr (i := jr) (j := r1) (by omega) (by omega) (by omega) (by omega)), HSTR.out.apart (by omega) hir1, by first | exact RR.out _ | exact RR.out 1⟩⟩
                      · rw [decide_eq_false huv] at HC2
                        clear huv
                        go_wp2
                        go_quiet ((go_at_call 46; exact (HC2.out _).mono fun e w' h => ⟨h.1, quiet_d0 h.2⟩))
                        go_wp2
                        go_roundw
                        case measure => simp [intOf]; omega
                        case rel => exact ⟨j + 1, i, by go_num, rfl, by omega, hpi, by omega, hid ⟨hr, HPBR.out, HSTR.out, by first | exact HSR.out | exact HSR.out.drewN _⟩⟩
                    · have hjr' : decide ((jr : Int) < (q : Int)) = false := decide_eq_false (by omega)
                      go_wp2
                      go_roundw
                      case measure => simp [intOf]; omega
                      case rel => exact ⟨j + 1, i, by go_num, rfl, by omega, hpi, by omega, hid ⟨hr, HPBR.out, HSTR.out, by first | exact HSR.out | exact HSR.out.drewN _⟩⟩
                · have hd22' : decide ((2 : Int) ≤ (d2 : Int)) = false := decide_eq_false (by omega)
                  have hd222 : decide (2 ≤ d2) = false := decide_eq_false hd22
                  go_wp2
                  go_roundw
                  case measure => simp [intOf]; omega
                  case rel => exact ⟨j + 1, i, by go_num, rfl, by omega, hpi, by omega, hid ⟨_, HPBX.out, HSTX.out, by first | exact R.out _ | exact R.out 1⟩⟩
          · rw [decide_eq_false hxy] at HCC
            have HXY := hid hxy
            clear hxy
            go_wp2
            go_quiet ((go_at_call 46; exact (HCC.out _).mono fun e w' h => ⟨h.1, quiet_d0 h.2⟩))
            go_wp2
            go_roundw
            case measure => simp [intOf]; omega
            case rel =>
              refine ⟨i + 1, by go_num, by omega, by omega, hid (HST.out.more ?_ hpi), hid (HSB.out.drewN _)⟩
              have := HI1.out
              rw [show i - 1 = i1 by omega, ← HX.out, ← HY.out]
              exact HXY.out
        · obtain rfl : i = q := by omega
          have hiq2' : decide ((i : Int) < (i : Int)) = false := decide_eq_false (by omega)
          have hbq : ((i : Int) == (i : Int)) = true := by simp
          go_wp2
          go_quiet (fail)
          go_wp2
          go_ret
          exact ⟨h, .inl ⟨rfl, HST.out⟩, HPB.out, HSB.out.drewN _⟩
    · have hj' : decide ((j : Int) < 5) = false := decide_eq_false (by omega)
      go_wp2
      go_ret
      exact ⟨h, .inr rfl, HPB.out, HSB.out⟩
end Go.Proofs.Ytljpjjokfkbdcaa
