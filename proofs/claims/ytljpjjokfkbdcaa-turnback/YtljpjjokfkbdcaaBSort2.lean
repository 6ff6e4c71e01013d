/-
The contracts of the helpers of slices.Sort at []byte: heap sort, reversing, the two partitions.
-/
import Derived.Test.YtljpjjokfkbdcaaBSort1
namespace Go.Proofs.Ytljpjjokfkbdcaa
open Go.RowKit

theorem siftB_zero (w0 : World) (b n c hi f : Nat) (g : Nat → Nat) (w : World) (H : SB w0 b n g w) (hp : Bs.Hp f 1 hi g) (h1 : f + hi ≤ n) (hn : n ≤ 1000) :
    Calls Try.prog 65 #[.slice (some ⟨b, 0, none⟩) n c, .int .i64 0, .int .i64 (hi : Int), .int .i64 (f : Int)] w fun e w' => e = .returned (.tuple #[]) ∧ ∃ h, Bs.PB f (f + hi) g h ∧ Bs.Hp f 0 hi h ∧ SB w0 b n h w' :=
  siftB_any w0 b n c 0 hi f g w H hp h1 (Nat.zero_le _) hn
set_option maxHeartbeats 1000000 in
theorem heapB_any (w0 : World) (b n c p q : Nat) (g : Nat → Nat) (w : World) (H : SB w0 b n g w) (h1 : p < q) (h2 : q ≤ n) (hn : n ≤ 1000) :
    Calls Try.prog 41 #[.slice (some ⟨b, 0, none⟩) n c, .int .i64 (p : Int), .int .i64 (q : Int)] w (SrtB w0 b n p q g) := by
  have HH := hid H
  obtain ⟨hi, hhi⟩ : ∃ hi, hi = q - p := ⟨_, rfl⟩
  obtain ⟨hi1, hhi1⟩ : ∃ hi1, hi1 = hi - 1 := ⟨_, rfl⟩
  obtain ⟨i0, hi0⟩ : ∃ i0, i0 = hi1 / 2 := ⟨_, rfl⟩
  have e1 : (q : Int) - (p : Int) = (hi : Int) := by omega
  have e2 : (hi : Int) - 1 = (hi1 : Int) := by omega
  have e3 : (hi1 : Int) / 2 = (i0 : Int) := by omega
  have e4 : (hi1 : Int).tdiv 2 = (i0 : Int) := by rw [Int.tdiv_eq_ediv_of_nonneg (by omega)]; exact e3
  have hib : hi ≤ 1000 := by omega
  have hpq : p + hi = q := by omega
  have hi00 : hi ≤ 2 * (i0 + 1) + 1 := by omega
  have hi0h : i0 + 1 ≤ hi := by omega
  have HHI1 := hid hhi1
  clear H hhi hhi1 hi0
  go_enter Try.func41, Try.ntmps41
  go_wp2
  go_loopw [9] (fun x wr => ∃ (k : Nat) (z : Int), x = .int .i64 z ∧ z = (k : Int) - 1 ∧ k ≤ hi ∧ Hid (∃ h, Bs.PB p q g h ∧ Bs.Hp p k hi h ∧ SB w0 b n h wr)) (fun x _ => ((intOf x) + 1).toNat)
  case atStart => exact ⟨i0 + 1, (i0 : Int), rfl, by omega, hi0h, hid ⟨g, Bs.PB.refl _ _ _, Bs.Hp.none_ g hi00, HH.out⟩⟩
  case round =>
    clear HH
    obtain ⟨k, z, rfl, hz, hk, HR⟩ := hrel
    obtain ⟨h, hpb, hp, hs⟩ := HR.out
    have HPB := hid hpb
    have HP := hid hp
    have HS := hid hs
    clear HR hpb hp hs
    by_cases hk0 : 0 < k
    · obtain ⟨k1, hk1⟩ : ∃ k1, k = k1 + 1 := ⟨k - 1, by omega⟩
      obtain rfl : z = (k1 : Int) := by omega
      have hz2 : decide ((0 : Int) ≤ (k1 : Int)) = true := decide_eq_true (by omega)
      have HP1 : Hid (Bs.Hp p (k1 + 1) hi h) := by rw [← hk1]; exact HP.out
      have HK := hid hk1
      have hk1b : k1 ≤ 1000 := by omega
      clear hz hk1 HP
      go_wp2_with fail
      with_reducible refine (siftB_any w0 b n c k1 hi p h _ HS.out HP1.out (by omega) (by have := HK.out; omega) hn).mono ?_
      rintro e w1 ⟨rfl, h', a1, a2, a3⟩
      have A1 := hid a1
      have A2 := hid a2
      have A3 := hid a3
      clear a1 a2 a3
      go_wp2
      go_roundw
      case measure => simp [intOf]
      case rel =>
        have a := A1.out
        rw [hpq] at a
        exact ⟨k1, (k1 : Int) - 1, rfl, rfl, by have := HK.out; omega, hid ⟨h', HPB.out.trans a, A2.out, A3.out⟩⟩
    · obtain rfl : k = 0 := by omega
      have hzd : decide ((0 : Int) ≤ z) = false := decide_eq_false (by omega)
      clear hz
      go_wp2
      go_loopw [10] (fun x wr => ∃ (k : Nat) (z : Int), x = .int .i64 z ∧ z = (k : Int) - 1 ∧ k ≤ hi ∧ Hid (∃ h, Bs.PB p q g h ∧ Bs.Hs p hi k h ∧ SB w0 b n h wr)) (fun x _ => ((intOf x) + 1).toNat)
      case atStart => exact ⟨hi, (hi1 : Int), rfl, by have := HHI1.out; omega, Nat.le_refl _, hid ⟨h, HPB.out, Bs.Hs.start HP.out, HS.out⟩⟩
      case round =>
        clear HPB HP HS
        obtain ⟨k, z, rfl, hz, hk, HR⟩ := hrel
        obtain ⟨h, hpb, hp, hs⟩ := HR.out
        have HPB := hid hpb
        have HP := hid hp
        have HS := hid hs
        clear HR hpb hp hs
        by_cases hk0 : 0 < k
        · obtain ⟨k1, hk1⟩ : ∃ k1, k = k1 + 1 := ⟨k - 1, by omega⟩
          obtain rfl : z = (k1 : Int) := by omega
          have hz2 : decide ((0 : Int) ≤ (k1 : Int)) = true := decide_eq_true (by omega)
          obtain ⟨pk, hpk⟩ : ∃ pk, pk = p + k1 := ⟨_, rfl⟩
          have epk : (p : Int) + (k1 : Int) = (pk : Int) := by omega
          by_cases hpe : p = pk
          · subst hpe
            have hpn : p < n := by omega
            have hpn' : (p : Int) < (n : Int) := by omega
            have cp := HS.out.row p hpn
            have fp := HS.out.fz p hpn
            have R := hid (HS.out.swap (h := fun x => h (St.swI p p x)) p p hpn hpn (fun x => rfl))
            have HP1 : Hid (Bs.Hs p hi (k1 + 1) h) := by rw [← hk1]; exact HP.out
            have HK := hid hk1
            have HPK := hid hpk
            obtain ⟨X, hX⟩ : ∃ X, X = h p := ⟨_, rfl⟩
            rw [← hX] at cp R
            have hsw := HP1.out.swapped
            rw [← hpk] at hsw
            have HSW := hid hsw
            have hk1b : k1 ≤ 1000 := by omega
            clear hz hk1 HP hpk hX HS hsw
            go_wp2
            go_region
            go_wp2_with fail
            with_reducible refine (siftB_zero w0 b n c k1 p (fun x => h (St.swI p p x)) _ ?hsb HSW.out.1 (by have := HPK.out; omega) hn).mono ?_
            case hsb => exact R.out 1
            rintro e w1 ⟨rfl, h', a1, a2, a3⟩
            have A1 := hid a1
            have A2 := hid a2
            have A3 := hid a3
            clear a1 a2 a3
            go_wp2
            go_roundw
            case measure => simp [intOf]
            case rel =>
              have hk1 := HK.out
              have hpk := HPK.out
              have sw := Bs.PB.sw (a := p) (b := q) h (i := p) (j := p) (by omega) (by omega) (by omega) (by omega)
              exact ⟨k1, (k1 : Int) - 1, rfl, rfl, by omega, hid ⟨h', (HPB.out.trans sw).trans (A1.out.mono (Nat.le_refl _) (by omega)), Bs.Hs.next HSW.out.2 A1.out A2.out (by omega), A3.out⟩⟩
          · have hpn : p < n := by omega
            have hpkn : pk < n := by omega
            have hpn' : (p : Int) < (n : Int) := by omega
            have hpkn' : (pk : Int) < (n : Int) := by omega
            have cp := HS.out.row p hpn
            have cpk := HS.out.row pk hpkn
            have fp := HS.out.fz p hpn
            have fpk := HS.out.fz pk hpkn
            have hpe2 : p ≠ pk := hpe
            have R := hid (HS.out.swap (h := fun x => h (St.swI p pk x)) p pk hpn hpkn (fun x => rfl))
            have HP1 : Hid (Bs.Hs p hi (k1 + 1) h) := by rw [← hk1]; exact HP.out
            have HK := hid hk1
            have HPK := hid hpk
            obtain ⟨X, hX⟩ : ∃ X, X = h p := ⟨_, rfl⟩
            obtain ⟨Y, hY⟩ : ∃ Y, Y = h pk := ⟨_, rfl⟩
            rw [← hX] at cp R
            rw [← hY] at cpk R
            have hsw := HP1.out.swapped
            rw [← hpk] at hsw
            have HSW := hid hsw
            have hk1b : k1 ≤ 1000 := by omega
            clear hz hk1 HP hpk hX hY HS hsw
            go_wp2
            go_region
            go_wp2_with fail
            with_reducible refine (siftB_zero w0 b n c k1 p (fun x => h (St.swI p pk x)) _ ?hsb HSW.out.1 (by have := HPK.out; omega) hn).mono ?_
            case hsb => exact R.out 1
            rintro e w1 ⟨rfl, h', a1, a2, a3⟩
            have A1 := hid a1
            have A2 := hid a2
            have A3 := hid a3
            clear a1 a2 a3
            go_wp2
            go_roundw
            case measure => simp [intOf]
            case rel =>
              have hk1 := HK.out
              have hpk := HPK.out
              have sw := Bs.PB.sw (a := p) (b := q) h (i := p) (j := pk) (by omega) (by omega) (by omega) (by omega)
              exact ⟨k1, (k1 : Int) - 1, rfl, rfl, by omega, hid ⟨h', (HPB.out.trans sw).trans (A1.out.mono (Nat.le_refl _) (by omega)), Bs.Hs.next HSW.out.2 A1.out A2.out (by omega), A3.out⟩⟩
        · obtain rfl : k = 0 := by omega
          have hzd : decide ((0 : Int) ≤ z) = false := decide_eq_false (by omega)
          clear hz
          go_wp2
          go_end0
          refine ⟨rfl, h, HPB.out, ?_, HS.out⟩
          have := HP.out.done
          rw [hpq] at this
          exact this
theorem revB_any (w0 : World) (b n c p q : Nat) (g : Nat → Nat) (w : World) (H : SB w0 b n g w) (h1 : p < q) (h2 : q ≤ n) (hn : n ≤ 1000) :
    Calls Try.prog 44 #[.slice (some ⟨b, 0, none⟩) n c, .int .i64 (p : Int), .int .i64 (q : Int)] w fun e w' => e = .returned (.tuple #[]) ∧ ∃ h, Bs.PB p q g h ∧ SB w0 b n h w' := by
  have HH := hid H
  obtain ⟨q1, hq1⟩ : ∃ q1, q = q1 + 1 := ⟨q - 1, by omega⟩
  have e1 : (q : Int) - 1 = (q1 : Int) := by omega
  have HQ1 := hid hq1
  have hq1n : q1 < n := by omega
  have hpq1 : p ≤ q1 := by omega
  clear H hq1
  go_enter Try.func44, Try.ntmps44
  go_wp2
  go_loopw [6, 7] (fun x y wr => ∃ (i : Nat) (j : Int), x = .int .i64 (i : Int) ∧ y = .int .i64 j ∧ p ≤ i ∧ i ≤ q ∧ j ≤ (q1 : Int) ∧ -1 ≤ j ∧ Hid (∃ h, Bs.PB p q g h ∧ SB w0 b n h wr)) (fun _ y _ => ((intOf y) + 1).toNat)
  case atStart => exact ⟨p, (q1 : Int), rfl, rfl, by omega, by omega, by omega, by omega, hid ⟨g, Bs.PB.refl _ _ _, HH.out⟩⟩
  case round =>
    clear HH
    obtain ⟨i, j, rfl, rfl, hpi, hiq, hjq, hj1, HR⟩ := hrel
    obtain ⟨h, hpb, hs⟩ := HR.out
    have HPB := hid hpb
    have HS := hid hs
    clear HR hpb hs
    by_cases hij : (i : Int) < j
    · obtain ⟨k, rfl⟩ : ∃ k : Nat, j = (k : Int) := ⟨j.toNat, by omega⟩
      have hij2 : i < k := by omega
      have hin : i < n := by omega
      have hkn : k < n := by omega
      have hin' : (i : Int) < (n : Int) := by omega
      have hkn' : (k : Int) < (n : Int) := by omega
      have ci := HS.out.row i hin
      have ck := HS.out.row k hkn
      have fi := HS.out.fz i hin
      have fk := HS.out.fz k hkn
      have R := hid (HS.out.swap (h := fun x => h (St.swI i k x)) i k hin hkn (fun x => rfl))
      obtain ⟨X, hX⟩ : ∃ X, X = h i := ⟨_, rfl⟩
      obtain ⟨Y, hY⟩ : ∃ Y, Y = h k := ⟨_, rfl⟩
      rw [← hX] at ci R
      rw [← hY] at ck R
      clear hX hY HS
      go_wp2
      go_region
      go_wp2
      go_roundw
      case measure => simp [intOf]
      case rel =>
        have := HQ1.out
        exact ⟨i + 1, (k : Int) - 1, by go_num, rfl, by omega, by omega, by omega, by omega, hid ⟨_, HPB.out.trans (Bs.PB.sw h (i := i) (j := k) (by omega) (by omega) (by omega) (by omega)), R.out _⟩⟩
    · have hij' : decide ((i : Int) < j) = false := decide_eq_false hij
      go_wp2
      go_end0
      exact ⟨rfl, h, HPB.out, HS.out⟩
end Go.Proofs.Ytljpjjokfkbdcaa
