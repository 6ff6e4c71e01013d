
/-
The contract of slices.SortStableFunc at []api.Edit, with quillref.BothOf's closure.
-/
import Derived.Test.YtphbloibldljjaaSymMidE
namespace Go.Proofs.Ytphbloibldljjaa
open Go.RowKit

/-- What a stable sort of n edits E 0, E 1, .. leaves. -/
def DoneE (w0 : World) (b o n : Nat) (E : Nat → Es.Ev) (R : Nat → Nat → Prop) (e : Ending) (w' : World) : Prop :=
  e = .returned (.tuple #[]) ∧ ∃ h, St.PI 0 n id h ∧ St.Srt R 0 n h ∧ SE w0 b o n E h w'
set_option maxHeartbeats 1000000 in
theorem stabE_any {E : Nat → Es.Ev} (w0 : World) (b o n c : Nat) (cf : Nat → Nat → Int) (R : Nat → Nat → Prop) (w : World) (hC : CmpE E n cf) (O : St.Ord (ltE cf) R) (H : SE w0 b o n E id w) (hn : n ≤ 1000) :
    Calls Try.prog 44 #[.slice (some ⟨b, o, none⟩) n c, .int .i64 (n : Int), .func (.func 31) #[] #[]] w (DoneE w0 b o n E R) := by
  have HH := hid H
  have HC := hid hC
  clear H hC
  go_enter Try.func44, Try.ntmps44
  go_wp2
  go_loopw [7, 8] (fun x y wr => ∃ p q : Nat, x = .int .i64 p ∧ y = .int .i64 q ∧ q = p + 20 ∧ Hid (∃ g, St.P1 R n p g ∧ SE w0 b o n E g wr)) (fun x y _ => n + 20 - (intOf y).toNat)
  case atStart => exact ⟨0, 20, rfl, rfl, rfl, hid ⟨id, St.P1.start R n, HH.out⟩⟩
  case round =>
    clear HH
    obtain ⟨p, q, rfl, rfl, hq, HR⟩ := hrel
    obtain ⟨g, hp1, hs⟩ := HR.out
    have HP := hid hp1
    have HS := hid hs
    have hle := hp1.le
    have HQ := hid hq
    clear HR hp1 hs
    by_cases hqn : q ≤ n
    · have hqn' : (q : Int) ≤ (n : Int) := by omega
      have hqp : p ≤ q := by omega
      clear hq
      go_wp2_with fail
      with_reducible refine (insE_any w0 b o n c p q cf R g _ HC.out O HS.out (HP.out.inc q) hqp hqn hn).mono ?_
      rintro e w1 ⟨rfl, g2, hpi, hsr, hs2⟩
      have HPI := hid hpi
      have HSR := hid hsr
      have HS2 := hid hs2
      clear hpi hsr hs2
      go_wp2
      go_roundw
      case measure => simp [intOf]; omega
      case rel =>
        refine ⟨q, q + 20, rfl, by go_num, rfl, hid ⟨g2, ?_, HS2.out⟩⟩
        have hq := HQ.out
        have h1 := HPI.out
        have h2 := HSR.out
        rw [hq] at h1 h2 ⊢
        exact HP.out.step (by omega) h1 h2
    · have hqn' : decide ((q : Int) ≤ (n : Int)) = false := decide_eq_false (by omega)
      clear hq
      go_wp2_with fail
      with_reducible refine (insE_any w0 b o n c p n cf R g _ HC.out O HS.out (HP.out.inc n) hle (Nat.le_refl _) hn).mono ?_
      rintro e w1 ⟨rfl, g2, hpi, hsr, hs2⟩
      have HBK : Hid (St.BlkOk R 20 n g2) := HP.out.last (by have := HQ.out; omega) hpi hsr
      have HS2 := hid hs2
      clear hpi hsr hs2 HP HS
      go_wp2
      go_loopw [6] (fun x wr => ∃ z : Nat, x = .int .i64 z ∧ 0 < z ∧ z ≤ 2000 ∧ Hid (∃ g, St.BlkOk R z n g ∧ SE w0 b o n E g wr)) (fun x _ => n - (intOf x).toNat)
      case atStart => exact ⟨20, rfl, by omega, by omega, hid ⟨g2, HBK.out, HS2.out⟩⟩
      case round =>
        clear HBK HS2
        obtain ⟨z, rfl, hz0, hz1, HR⟩ := hrel
        obtain ⟨g3, hbk, hs3⟩ := HR.out
        have HBK := hid hbk
        have HS3 := hid hs3
        clear HR hbk hs3
        by_cases hzn : z < n
        · have hzn' : (z : Int) < (n : Int) := by omega
          obtain ⟨zz, hzz⟩ : ∃ zz, zz = 2 * z := ⟨_, rfl⟩
          have ezz : (2 : Int) * (z : Int) = (zz : Int) := by omega
          have ezz2 : (z : Int) * (2 : Int) = (zz : Int) := by omega
          have hzzn : zz ≤ 2000 := by omega
          have HZZ := hid hzz
          clear hzz
          go_wp2
          go_loopw [7, 8] (fun x y wr => ∃ p q : Nat, x = .int .i64 p ∧ y = .int .i64 q ∧ q = p + zz ∧ p ≤ n ∧ Hid (∃ g, St.Blk R z n p g ∧ SE w0 b o n E g wr)) (fun x y _ => n + zz - (intOf y).toNat)
          case atStart => exact ⟨0, zz, rfl, rfl, by omega, by omega, hid ⟨g3, HBK.out.start hz0, HS3.out⟩⟩
          case round =>
            clear HS3
            obtain ⟨p2, q2, rfl, rfl, hq2, hp2n, HR⟩ := hrel
            obtain ⟨g4, hb4, hs4⟩ := HR.out
            have HB4 := hid hb4
            have HS4 := hid hs4
            have HQ2 := hid hq2
            obtain ⟨m, hm⟩ : ∃ m, m = p2 + z := ⟨_, rfl⟩
            have em : (p2 : Int) + (z : Int) = (m : Int) := by omega
            have hmb : m ≤ 2000 := by omega
            have HM := hid hm
            clear HR hb4 hs4
            by_cases hqn2 : q2 ≤ n
            · have hqn2' : (q2 : Int) ≤ (n : Int) := by omega
              obtain ⟨a1, a2, a3⟩ := HB4.out.ask (m := m) (b := q2) hm (by have := HZZ.out; omega) (by have := HZZ.out; omega)
              have A1 := hid a1
              have A2 := hid a2
              have A3 := hid a3
              have hpm : p2 < m := by omega
              have hmq : m < q2 := by have := HZZ.out; omega
              clear hq2 hm a1 a2 a3
              go_wp2_with fail
              with_reducible refine ((symE_any w0 b o n c cf R HC.out O hn (q2 - p2)).at_ p2 m q2 g4 _ (Nat.le_refl _) HS4.out A1.out A2.out A3.out hpm hmq hqn2).mono ?_
              rintro e w2 ⟨rfl, g5, hpi, hsr, hs5⟩
              have HPI := hid hpi
              have HSR := hid hsr
              have HS5 := hid hs5
              have hq2b : q2 + zz ≤ 4000 := by omega
              clear hpi hsr hs5
              go_wp2
              go_roundw
              case measure => simp [intOf]; omega
              case rel =>
                have := HZZ.out
                have := HQ2.out
                exact ⟨q2, q2 + zz, rfl, by first | rfl | go_num, rfl, hqn2, hid ⟨g5, HB4.out.step (by omega) hqn2 HPI.out HSR.out, HS5.out⟩⟩
            · have hqn2' : decide ((q2 : Int) ≤ (n : Int)) = false := decide_eq_false (by omega)
              by_cases hmn : m < n
              · have hmn' : (m : Int) < (n : Int) := by omega
                obtain ⟨a1, a2, a3⟩ := HB4.out.ask (m := m) (b := n) hm (by omega) (by have := HZZ.out; omega)
                have A1 := hid a1
                have A2 := hid a2
                have A3 := hid a3
                have hpm : p2 < m := by omega
                clear hq2 hm a1 a2 a3
                go_wp2_with fail
                with_reducible refine ((symE_any w0 b o n c cf R HC.out O hn (n - p2)).at_ p2 m n g4 _ (Nat.le_refl _) HS4.out A1.out A2.out A3.out hpm hmn (Nat.le_refl _)).mono ?_
                rintro e w2 ⟨rfl, g5, hpi, hsr, hs5⟩
                have HPI := hid hpi
                have HSR := hid hsr
                have HS5 := hid hs5
                clear hpi hsr hs5
                go_wp2
                go_roundw
                case measure => have := HZZ.out; simp [intOf]; omega
                case rel =>
                  have hz2 := HZZ.out
                  have := HQ2.out
                  refine ⟨zz, by first | rfl | go_num, by omega, by omega, hid ⟨g5, ?_, HS5.out⟩⟩
                  rw [hz2]
                  exact HB4.out.last (by omega) HPI.out HSR.out hp2n
              · have hmn' : decide ((m : Int) < (n : Int)) = false := decide_eq_false (by omega)
                clear hq2 hm
                go_wp2
                go_roundw
                case measure => have := HZZ.out; simp [intOf]; omega
                case rel =>
                  have hz2 := HZZ.out
                  have := HQ2.out
                  have hm := HM.out
                  refine ⟨zz, by first | rfl | go_num, by omega, by omega, hid ⟨g4, ?_, HS4.out⟩⟩
                  rw [hz2]
                  exact HB4.out.last (by omega) (St.PI.refl _ _ _) (HB4.out.tail (by omega)) hp2n
        · have hzn' : decide ((z : Int) < (n : Int)) = false := decide_eq_false (by omega)
          go_wp2
          go_end0
          exact ⟨rfl, g3, HBK.out.all, HBK.out.end_ (by omega), HS3.out⟩
theorem sortE_any {E : Nat → Es.Ev} (w0 : World) (b o n c : Nat) (cf : Nat → Nat → Int) (R : Nat → Nat → Prop) (w : World) (hC : CmpE E n cf) (O : St.Ord (ltE cf) R) (H : SE w0 b o n E id w) (hn : n ≤ 1000) :
    Calls Try.prog 30 #[.slice (some ⟨b, o, none⟩) n c, .func (.func 31) #[] #[]] w (DoneE w0 b o n E R) := by
  have HH := hid H
  have HC := hid hC
  clear H hC
  go_enter Try.func30, Try.ntmps30
  go_wp2_with fail
  with_reducible refine (stabE_any w0 b o n c cf R _ HC.out O HH.out hn).mono ?_
  rintro e w1 ⟨rfl, g, h1, h2, h3⟩
  have A1 := hid h1
  have A2 := hid h2
  have A3 := hid h3
  clear h1 h2 h3
  go_wp2
  go_end0
  exact ⟨rfl, g, A1.out, A2.out, A3.out⟩
end Go.Proofs.Ytphbloibldljjaa
