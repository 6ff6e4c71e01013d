/-
The contracts of the helpers of slices.Sort at []byte: cmp.Less, insertion sort, sift down, heap sort.
-/
import Derived.Test.YtljpjjokfkbdcaaBSortMath
import Derived.Test.YtljpjjokfkbdcaaStabInt
namespace Go.Proofs.Ytljpjjokfkbdcaa
open Go.RowKit

/-- The row of block b holds the bytes h 0, .., h (n - 1); nothing else that was there has changed since w0. -/
structure SB (w0 : World) (b n : Nat) (h : Nat → Nat) (w : World) : Prop where
  row : ∀ k, k < n → w.cell? ⟨b, k, none⟩ = some (.int .u8 (h k : Int))
  fz : ∀ k, k < n → w.frozen? ⟨b, k, none⟩ = false
  gr : w0.grownBy w (some b)
  lt : b < w.heap.size
theorem SB.drewN {w0 w : World} {b n : Nat} {h : Nat → Nat} (H : SB w0 b n h w) (d : Nat) : SB w0 b n h (w.drewN d) := ⟨H.row, H.fz, ⟨H.gr.os, H.gr.tape, H.gr.output, H.gr.size, H.gr.block⟩, H.lt⟩
theorem SB.keep {w0 w w' : World} {b n : Nat} {h : Nat → Nat} (H : SB w0 b n h w) (k : Below w.heap.size w w') : SB w0 b n h w' := by
  refine ⟨fun j hj => (k.cell (p := ⟨b, j, none⟩) H.lt).trans (H.row j hj), fun j hj => ?_, ?_, Nat.lt_of_lt_of_le H.lt k.size⟩
  · have := H.fz j hj
    unfold World.frozen? at this ⊢
    rw [k.block b H.lt]
    exact this
  · exact ⟨k.os.trans H.gr.os, k.tape.trans H.gr.tape, k.output.trans H.gr.output, Nat.le_trans H.gr.size k.size, fun x hx hne => (k.block x (Nat.lt_of_lt_of_le hx H.gr.size)).trans (H.gr.block x hx hne)⟩
theorem SB.congr {w0 w : World} {b n : Nat} {g h : Nat → Nat} (H : SB w0 b n g w) (e : ∀ x, h x = g x) : SB w0 b n h w := ⟨fun k hk => by rw [e k]; exact H.row k hk, H.fz, H.gr, H.lt⟩
theorem SB.swap {w0 w : World} {b n : Nat} {g h : Nat → Nat} (H : SB w0 b n g w) (i j : Nat) (hi : i < n) (hj : j < n) (hh : ∀ x, h x = g (St.swI i j x)) (d : Nat) :
    SB w0 b n h (((w.drewN d).setCell ⟨b, i, none⟩ (.int .u8 (g j : Int))).setCell ⟨b, j, none⟩ (.int .u8 (g i : Int))) := by
  have hci := (H.drewN d).row i hi
  have hcj := (H.drewN d).row j hj
  have s1 : ∀ k, ((w.drewN d).setCell ⟨b, i, none⟩ (.int .u8 (g j : Int))).cell? ⟨b, k, none⟩ = if k = i then some (.int .u8 (g j : Int)) else (w.drewN d).cell? ⟨b, k, none⟩ := fun k => by
    by_cases e : k = i
    · subst e; rw [World.cell?_setCell_same _ _ _ hci, if_pos rfl]
    · rw [World.cell?_setCell_other _ _ _ _ (by intro h'; injection h' with _ h''; exact e h''.symm), if_neg e]
  have hcj2 : ∃ u, ((w.drewN d).setCell ⟨b, i, none⟩ (.int .u8 (g j : Int))).cell? ⟨b, j, none⟩ = some u := by
    rw [s1]
    split
    · exact ⟨_, rfl⟩
    · exact ⟨_, hcj⟩
  obtain ⟨u, hu⟩ := hcj2
  refine ⟨fun k hk => ?_, fun k hk => ?_, si_set (si_set (H.drewN d).gr), by simpa using H.lt⟩
  · have hs := St.swI_spec i j k
    rw [hh k]
    by_cases e : k = j
    · subst e
      rw [World.cell?_setCell_same _ _ _ hu, show St.swI i k k = i by omega]
    · rw [World.cell?_setCell_other _ _ _ _ (by intro h'; injection h' with _ h''; exact e h''.symm), s1]
      by_cases e2 : k = i
      · rw [if_pos e2, show St.swI i j k = j by omega]
      · rw [if_neg e2, show St.swI i j k = k by omega]
        exact (H.drewN d).row k hk
  · have := H.fz k hk
    simpa using this
theorem nan_any (x : Nat) (w : World) : Calls Try.prog 70 #[.int .u8 (x : Int)] w fun e w' => e = .returned (.bool false) ∧ w = w' := by
  have h : ((x : Int) != (x : Int)) = false := by simp
  go_enter Try.func70, Try.ntmps70
  go_wp2
  go_ret
  exact ⟨rfl, rfl⟩
theorem less_any (x y : Nat) (w : World) : Calls Try.prog 46 #[.int .u8 (x : Int), .int .u8 (y : Int)] w fun e w' => e = .returned (.bool (decide (x < y))) ∧ Drew w w' := by
  have hb : decide ((x : Int) < (y : Int)) = decide (x < y) := decide_eq_decide.2 (by omega)
  go_enter Try.func46, Try.ntmps46
  go_wp2
  go_ret
  exact ⟨ret_bool (by simp), Drew.refl _⟩
/-- What a part of the row becomes, sorted. -/
def SrtB (w0 : World) (b n p q : Nat) (g : Nat → Nat) (e : Ending) (w' : World) : Prop :=
  e = .returned (.tuple #[]) ∧ ∃ h, Bs.PB p q g h ∧ Bs.Sb p q h ∧ SB w0 b n h w'
theorem insB_any (w0 : World) (b n c p q : Nat) (g : Nat → Nat) (w : World) (H : SB w0 b n g w) (h1 : p ≤ q) (h2 : q ≤ n) (hn : n ≤ 1000) :
    Calls Try.prog 40 #[.slice (some ⟨b, 0, none⟩) n c, .int .i64 (p : Int), .int .i64 (q : Int)] w (SrtB w0 b n p q g) := by
  have HH := hid H
  clear H
  go_enter Try.func40, Try.ntmps40
  go_wp2
  go_loopw [6] (fun x wr => ∃ i : Nat, x = .int .i64 i ∧ p < i ∧ Hid (∃ h, Bs.PB p (min i q) g h ∧ Bs.Sb p i h ∧ SB w0 b n h wr)) (fun x _ => q - (intOf x).toNat)
  case atStart => exact ⟨p + 1, by go_num, by omega, hid ⟨g, Bs.PB.refl _ _ _, fun x y x1 x2 x3 => by omega, HH.out⟩⟩
  case round =>
    obtain ⟨i, rfl, hpi, HR⟩ := hrel
    obtain ⟨h, hpi1, hsrt, hsi⟩ := HR.out
    have HP := hid hpi1
    have HT := hid hsrt
    have HS := hid hsi
    clear hpi1 hsrt hsi HR
    by_cases hlt : i < q
    · have hlt' : (i : Int) < (q : Int) := by omega
      go_wp2
      go_loopw [7] (fun x wr => ∃ j : Nat, x = .int .i64 j ∧ p ≤ j ∧ j ≤ i ∧ Hid (∃ h', Bs.PB p (i + 1) h h' ∧ Bs.Ib p i j h' ∧ SB w0 b n h' wr)) (fun x _ => (intOf x).toNat)
      case atStart => exact ⟨i, rfl, by omega, by omega, hid ⟨h, Bs.PB.refl _ _ _, Bs.Ib.start HT.out, HS.out⟩⟩
      case round =>
        obtain ⟨j, rfl, hpj, hji, HR⟩ := hrel
        obtain ⟨h', hpi1, hins, hsi⟩ := HR.out
        have HP2 := hid hpi1
        have HI := hid hins
        have HS2 := hid hsi
        clear hpi1 hins hsi HR
        have fin : Hid (Bs.Sb p (i + 1) h' → ∀ d, ∃ h, Bs.PB p (min (i + 1) q) g h ∧ Bs.Sb p (i + 1) h ∧ SB w0 b n h (wr.drewN d)) := fun hs d => ⟨h', (HP.out.mono (Nat.le_refl _) (by omega)).trans (HP2.out.mono (Nat.le_refl _) (by omega)), hs, HS2.out.drewN d⟩
        by_cases hpj2 : p < j
        · obtain ⟨k, hk⟩ : ∃ k, j = k + 1 := ⟨j - 1, by omega⟩
          have ek : (j : Int) - 1 = (k : Int) := by omega
          have hpj3 : (p : Int) < (j : Int) := by omega
          have hjn : j < n := by omega
          have hkn : k < n := by omega
          have hjn' : (j : Int) < (n : Int) := by omega
          have hkn' : (k : Int) < (n : Int) := by omega
          have cj := HS2.out.row j hjn
          have ck := HS2.out.row k hkn
          have fj := HS2.out.fz j hjn
          have fk := HS2.out.fz k hkn
          have R := hid (HS2.out.swap (h := fun x => h' (St.swI j k x)) j k hjn hkn (fun x => rfl))
          have HK := hid hk
          have hwk : IntKind.i64.wrap (k : Int) = (k : Int) := IntWalk.i64_in _ (by omega)
          have hk0 : (0 : Int) ≤ (k : Int) := by omega
          clear hk
          obtain ⟨X, hX⟩ : ∃ X, X = h' j := ⟨_, rfl⟩
          obtain ⟨Y, hY⟩ : ∃ Y, Y = h' k := ⟨_, rfl⟩
          rw [← hX] at cj R
          rw [← hY] at ck R
          have HX := hid hX
          have HY := hid hY
          have HCC := hid (fun W => less_any X Y W)
          clear hX hY
          by_cases hneg : X < Y
          · rw [decide_eq_true hneg] at HCC
            have HL := hid hneg
            clear hneg fin
            go_wp2
            go_quiet ((go_at_call 46; exact (HCC.out _).mono fun e w' h => ⟨h.1, quiet_d0 h.2⟩))
            go_wp2
            go_region
            go_wp2
            go_roundw
            case measure => have := HK.out; simp [intOf]; omega
            case rel =>
              have hk := HK.out
              have hl := HL.out
              rw [HX.out, HY.out, hk] at hl
              have hin := HI.out
              rw [hk] at hin
              refine ⟨k, by first | rfl | go_num, by omega, by omega, hid ⟨_, HP2.out.trans (Bs.PB.sw h' (i := j) (j := k) (by omega) (by omega) (by omega) (by omega)), ?_, R.out _⟩⟩
              rw [hk]
              exact hin.step (by omega) (by omega) hl
          · rw [decide_eq_false hneg] at HCC
            have HL := hid hneg
            clear hneg
            go_wp2
            go_quiet ((go_at_call 46; exact (HCC.out _).mono fun e w' h => ⟨h.1, quiet_d0 h.2⟩))
            go_wp2
            go_roundw
            case measure => simp [intOf]; omega
            case rel =>
              have hk := HK.out
              have hl := HL.out
              rw [HX.out, HY.out, hk] at hl
              have hin := HI.out
              rw [hk] at hin
              exact ⟨i + 1, by go_num, by omega, hid (fin.out (hin.done (by omega) (by omega) hl) _)⟩
        · have hpj3 : decide ((p : Int) < (j : Int)) = false := decide_eq_false (by omega)
          have hpj4 : decide (p < j) = false := decide_eq_false (by omega)
          go_wp2
          go_quiet (fail)
          go_wp2
          go_roundw
          case measure => simp [intOf]; omega
          case rel =>
            obtain rfl : p = j := by omega
            exact ⟨i + 1, by go_num, by omega, hid (fin.out HI.out.low _)⟩
    · have hlt' : decide ((i : Int) < (q : Int)) = false := decide_eq_false (by omega)
      go_wp2
      go_end0
      exact ⟨rfl, h, HP.out.mono (Nat.le_refl _) (by omega), fun x y x1 x2 x3 => HT.out x y x1 x2 (by omega), HS.out⟩
theorem first_q {w w' : World} {x : Nat} (h : Drew (w.drewN x) w') : ∃ n, w' = w.drewN n := quiet_d0 h
set_option maxHeartbeats 2000000 in
theorem siftB_any (w0 : World) (b n c lo hi f : Nat) (g : Nat → Nat) (w : World) (H : SB w0 b n g w) (hp : Bs.Hp f (lo + 1) hi g) (h1 : f + hi ≤ n) (hl : lo ≤ hi) (hn : n ≤ 1000) :
    Calls Try.prog 65 #[.slice (some ⟨b, 0, none⟩) n c, .int .i64 (lo : Int), .int .i64 (hi : Int), .int .i64 (f : Int)] w fun e w' => e = .returned (.tuple #[]) ∧ ∃ h, Bs.PB f (f + hi) g h ∧ Bs.Hp f lo hi h ∧ SB w0 b n h w' := by
  have HH := hid H
  have HP := hid (Bs.Hq.start hp)
  clear H hp
  go_enter Try.func65, Try.ntmps65
  go_wp2
  go_loopw [8] (fun x wr => ∃ r : Nat, x = .int .i64 r ∧ r ≤ hi ∧ Hid (∃ h, Bs.PB f (f + hi) g h ∧ Bs.Hq f lo hi r h ∧ SB w0 b n h wr)) (fun x _ => hi - (intOf x).toNat)
  case atStart => exact ⟨lo, rfl, hl, hid ⟨g, Bs.PB.refl _ _ _, HP.out, HH.out⟩⟩
  case round =>
    clear HH HP
    obtain ⟨r, rfl, hr, HR⟩ := hrel
    obtain ⟨h, hpb, hq, hsb⟩ := HR.out
    have HPB := hid hpb
    have HQ := hid hq
    have HS := hid hsb
    clear HR hpb hq hsb
    obtain ⟨k, hk⟩ : ∃ k, k = 2 * r + 1 := ⟨_, rfl⟩
    obtain ⟨r2, hr2⟩ : ∃ r2, r2 = 2 * r := ⟨_, rfl⟩
    have er2 : (2 : Int) * (r : Int) = (r2 : Int) := by omega
    have ek : (r2 : Int) + 1 = (k : Int) := by omega
    have hkb : k ≤ 3000 := by omega
    have hr2b : r2 ≤ 3000 := by omega
    have HK := hid hk
    by_cases hkh : k < hi
    · have hkh' : decide ((hi : Int) ≤ (k : Int)) = false := decide_eq_false (by omega)
      have hkh2 : ¬ hi ≤ k := by omega
      obtain ⟨p1, hp1⟩ : ∃ p1, p1 = f + k := ⟨_, rfl⟩
      obtain ⟨p2, hp2⟩ : ∃ p2, p2 = p1 + 1 := ⟨_, rfl⟩
      obtain ⟨k2, hk2⟩ : ∃ k2, k2 = k + 1 := ⟨_, rfl⟩
      obtain ⟨pr, hpr⟩ : ∃ pr, pr = f + r := ⟨_, rfl⟩
      have ep1 : (f : Int) + (k : Int) = (p1 : Int) := by omega
      have ep2 : (p1 : Int) + 1 = (p2 : Int) := by omega
      have ek2 : (k : Int) + 1 = (k2 : Int) := by omega
      have epr : (f : Int) + (r : Int) = (pr : Int) := by omega
      have hp1n : p1 < n := by omega
      have hp1n' : (p1 : Int) < (n : Int) := by omega
      have hprn : pr < n := by omega
      have hprn' : (pr : Int) < (n : Int) := by omega
      have w1 : IntKind.i64.wrap (p1 : Int) = (p1 : Int) := IntWalk.i64_in _ (by omega)
      have w2 : IntKind.i64.wrap (p2 : Int) = (p2 : Int) := IntWalk.i64_in _ (by omega)
      have w3 : IntKind.i64.wrap (k2 : Int) = (k2 : Int) := IntWalk.i64_in _ (by omega)
      have w4 : IntKind.i64.wrap (pr : Int) = (pr : Int) := IntWalk.i64_in _ (by omega)
      have z1 : (0 : Int) ≤ (p1 : Int) := by omega
      have z2 : (0 : Int) ≤ (p2 : Int) := by omega
      have z3 : (0 : Int) ≤ (pr : Int) := by omega
      have c1 := HS.out.row p1 hp1n
      have cr := HS.out.row pr hprn
      have fr := HS.out.fz pr hprn
      have HP1 := hid hp1
      have HP2 := hid hp2
      have HK2 := hid hk2
      have HPR := hid hpr
      obtain ⟨X, hX⟩ : ∃ X, X = h p1 := ⟨_, rfl⟩
      rw [← hX] at c1
      have HX := hid hX
      by_cases hk2h : k2 < hi
      · have hk2h' : (k2 : Int) < (hi : Int) := by omega
        have hp2n : p2 < n := by omega
        have hp2n' : (p2 : Int) < (n : Int) := by omega
        have c2 := HS.out.row p2 hp2n
        obtain ⟨Y, hY⟩ : ∃ Y, Y = h p2 := ⟨_, rfl⟩
        rw [← hY] at c2
        have HY := hid hY
        have HCC := hid (fun W => less_any X Y W)
        have ep3 : (f : Int) + (k2 : Int) = (p2 : Int) := by omega
        clear hk hr2 hp1 hp2 hk2 hpr hX hY
        by_cases hxy : X < Y
        · rw [decide_eq_true hxy] at HCC
          have HXY := hid hxy
          clear hxy
          have HMAX : Hid (∀ c, c < hi → (c = 2 * r + 1 ∨ c = 2 * r + 2) → h (f + c) ≤ h (f + k2)) := by
            intro c hc hcr
            have e1 := HP1.out
            have e2 := HP2.out
            have e3 := HK.out
            have e4 := HK2.out
            have hxy := HXY.out
            rw [HX.out, HY.out] at hxy
            by_cases hck : c = k2
            · rw [hck]; exact Nat.le_refl _
            · rw [show f + c = p1 by omega, show f + k2 = p2 by omega]; omega
          have fc := HS.out.fz p2 (by omega)
          have R := hid (HS.out.swap (h := fun x => h (St.swI pr p2 x)) pr p2 hprn (by omega) (fun x => rfl))
          obtain ⟨Z, hZ⟩ : ∃ Z, Z = h pr := ⟨_, rfl⟩
          have HZ := hid hZ
          rw [← hZ] at cr R
          rw [← HY.out] at R
          have HCZ := hid (fun W => less_any Z Y W)
          have hprc : pr ≠ p2 := by have := HPR.out; have := HP1.out; have := HP2.out; have := HK.out; omega
          clear hZ
          by_cases hzv : Z < Y
          · rw [decide_eq_true hzv] at HCZ
            have HZV := hid hzv
            clear hzv
            go_wp2
            go_quiet ((go_at_call 46; exact (HCC.out _).mono fun e w' h => ⟨h.1, first_q h.2⟩))
            go_wp2
            go_quiet ((go_at_call 46; exact (HCZ.out _).mono fun e w' h => ⟨h.1, quiet_dr h.2⟩))
            go_wp2
            go_region
            go_wp2
            go_roundw
            case measure => have := HK.out; have := HK2.out; simp [intOf]; omega
            case rel =>
              have e1 := HP1.out
              have e2 := HP2.out
              have e3 := HK.out
              have e4 := HK2.out
              have e5 := HPR.out
              have hz := HZV.out
              rw [HZ.out, HY.out] at hz
              have epc : p2 = f + k2 := by omega
              refine ⟨k2, rfl, by omega, hid ⟨_, HPB.out.trans (Bs.PB.sw h (i := pr) (j := p2) (by omega) (by omega) (by omega) (by omega)), ?_, R.out _⟩⟩
              rw [e5, epc] at hz ⊢
              exact HQ.out.step (by omega) (by omega) HMAX.out hz
          · rw [decide_eq_false hzv] at HCZ
            have HZV := hid hzv
            clear hzv
            go_wp2
            go_quiet ((go_at_call 46; exact (HCC.out _).mono fun e w' h => ⟨h.1, first_q h.2⟩))
            go_wp2
            go_quiet ((go_at_call 46; exact (HCZ.out _).mono fun e w' h => ⟨h.1, quiet_dr h.2⟩))
            go_wp2
            refine bodyPost_ret (results_none rfl _ _ _) rfl ?_
            have e1 := HP1.out
            have e2 := HP2.out
            have e3 := HK.out
            have e4 := HK2.out
            have e5 := HPR.out
            have hz := HZV.out
            rw [HZ.out, HY.out, e5, show p2 = f + k2 by omega] at hz
            exact ⟨rfl, h, HPB.out, HQ.out.stop HMAX.out hz, by first | exact HS.out.drewN _ | exact (HS.out.drewN _).drewN _⟩
        · rw [decide_eq_false hxy] at HCC
          have HXY := hid hxy
          clear hxy
          have HMAX : Hid (∀ c, c < hi → (c = 2 * r + 1 ∨ c = 2 * r + 2) → h (f + c) ≤ h (f + k)) := by
            intro c hc hcr
            have e1 := HP1.out
            have e2 := HP2.out
            have e3 := HK.out
            have e4 := HK2.out
            have hxy := HXY.out
            rw [HX.out, HY.out] at hxy
            by_cases hck : c = k
            · rw [hck]; exact Nat.le_refl _
            · rw [show f + c = p2 by omega, show f + k = p1 by omega]; omega
          have fc := HS.out.fz p1 (by omega)
          have R := hid (HS.out.swap (h := fun x => h (St.swI pr p1 x)) pr p1 hprn (by omega) (fun x => rfl))
          obtain ⟨Z, hZ⟩ : ∃ Z, Z = h pr := ⟨_, rfl⟩
          have HZ := hid hZ
          rw [← hZ] at cr R
          rw [← HX.out] at R
          have HCZ := hid (fun W => less_any Z X W)
          have hprc : pr ≠ p1 := by have := HPR.out; have := HP1.out; have := HP2.out; have := HK.out; omega
          clear hZ
          by_cases hzv : Z < X
          · rw [decide_eq_true hzv] at HCZ
            have HZV := hid hzv
            clear hzv
            go_wp2
            go_quiet ((go_at_call 46; exact (HCC.out _).mono fun e w' h => ⟨h.1, first_q h.2⟩))
            go_wp2
            go_quiet ((go_at_call 46; exact (HCZ.out _).mono fun e w' h => ⟨h.1, quiet_dr h.2⟩))
            go_wp2
            go_region
            go_wp2
            go_roundw
            case measure => have := HK.out; have := HK2.out; simp [intOf]; omega
            case rel =>
              have e1 := HP1.out
              have e2 := HP2.out
              have e3 := HK.out
              have e4 := HK2.out
              have e5 := HPR.out
              have hz := HZV.out
              rw [HZ.out, HX.out] at hz
              have epc : p1 = f + k := by omega
              refine ⟨k, rfl, by omega, hid ⟨_, HPB.out.trans (Bs.PB.sw h (i := pr) (j := p1) (by omega) (by omega) (by omega) (by omega)), ?_, R.out _⟩⟩
              rw [e5, epc] at hz ⊢
              exact HQ.out.step (by omega) (by omega) HMAX.out hz
          · rw [decide_eq_false hzv] at HCZ
            have HZV := hid hzv
            clear hzv
            go_wp2
            go_quiet ((go_at_call 46; exact (HCC.out _).mono fun e w' h => ⟨h.1, first_q h.2⟩))
            go_wp2
            go_quiet ((go_at_call 46; exact (HCZ.out _).mono fun e w' h => ⟨h.1, quiet_dr h.2⟩))
            go_wp2
            refine bodyPost_ret (results_none rfl _ _ _) rfl ?_
            have e1 := HP1.out
            have e2 := HP2.out
            have e3 := HK.out
            have e4 := HK2.out
            have e5 := HPR.out
            have hz := HZV.out
            rw [HZ.out, HX.out, e5, show p1 = f + k by omega] at hz
            exact ⟨rfl, h, HPB.out, HQ.out.stop HMAX.out hz, by first | exact HS.out.drewN _ | exact (HS.out.drewN _).drewN _⟩
      · have hk2h' : decide ((k2 : Int) < (hi : Int)) = false := decide_eq_false (by omega)
        have hk2h2 : decide (k2 < hi) = false := decide_eq_false hk2h
        clear hk hr2 hp1 hp2 hk2 hpr hX
        have HMAX : Hid (∀ c, c < hi → (c = 2 * r + 1 ∨ c = 2 * r + 2) → h (f + c) ≤ h (f + k)) := by
          intro c hc hcr
          have e3 := HK.out
          have e4 := HK2.out
          rw [show c = k by omega]
          exact Nat.le_refl _
        have fc := HS.out.fz p1 (by omega)
        have R := hid (HS.out.swap (h := fun x => h (St.swI pr p1 x)) pr p1 hprn (by omega) (fun x => rfl))
        obtain ⟨Z, hZ⟩ : ∃ Z, Z = h pr := ⟨_, rfl⟩
        have HZ := hid hZ
        rw [← hZ] at cr R
        rw [← HX.out] at R
        have HCZ := hid (fun W => less_any Z X W)
        have hprc : pr ≠ p1 := by have := HPR.out; have := HP1.out; have := HP2.out; have := HK.out; omega
        clear hZ
        by_cases hzv : Z < X
        · rw [decide_eq_true hzv] at HCZ
          have HZV := hid hzv
          clear hzv
          go_wp2
          go_quiet (fail)
          go_wp2
          go_quiet ((go_at_call 46; exact (HCZ.out _).mono fun e w' h => ⟨h.1, quiet_dr h.2⟩))
          go_wp2
          go_region
          go_wp2
          go_roundw
          case measure => have := HK.out; have := HK2.out; simp [intOf]; omega
          case rel =>
            have e1 := HP1.out
            have e2 := HP2.out
            have e3 := HK.out
            have e4 := HK2.out
            have e5 := HPR.out
            have hz := HZV.out
            rw [HZ.out, HX.out] at hz
            have epc : p1 = f + k := by omega
            refine ⟨k, rfl, by omega, hid ⟨_, HPB.out.trans (Bs.PB.sw h (i := pr) (j := p1) (by omega) (by omega) (by omega) (by omega)), ?_, R.out _⟩⟩
            rw [e5, epc] at hz ⊢
            exact HQ.out.step (by omega) (by omega) HMAX.out hz
        · rw [decide_eq_false hzv] at HCZ
          have HZV := hid hzv
          clear hzv
          go_wp2
          go_quiet (fail)
          go_wp2
          go_quiet ((go_at_call 46; exact (HCZ.out _).mono fun e w' h => ⟨h.1, quiet_dr h.2⟩))
          go_wp2
          refine bodyPost_ret (results_none rfl _ _ _) rfl ?_
          have e1 := HP1.out
          have e2 := HP2.out
          have e3 := HK.out
          have e4 := HK2.out
          have e5 := HPR.out
          have hz := HZV.out
          rw [HZ.out, HX.out, e5, show p1 = f + k by omega] at hz
          exact ⟨rfl, h, HPB.out, HQ.out.stop HMAX.out hz, by first | exact HS.out.drewN _ | exact (HS.out.drewN _).drewN _⟩
    · have hkh' : decide ((hi : Int) ≤ (k : Int)) = true := decide_eq_true (by omega)
      have hkh2 : hi ≤ k := by omega
      clear hk hr2
      go_wp2
      go_end0
      exact ⟨rfl, h, HPB.out, HQ.out.leaf (by have := HK.out; omega), HS.out⟩
end Go.Proofs.Ytljpjjokfkbdcaa
