/-
The walk of quillkeep.TreeShannon: it returns true for every list of weights.
-/
import Derived.Test.YtppochjhodafdaaTrees
namespace Go.Proofs.Ytppochjhodafdaa
open Go.RowKit

namespace Hm
/-- The number of twos from w to A. -/
def twF (A : Nat) : Nat → Nat → Nat
  | _, 0 => 0
  | w, f + 1 => if A ≤ w then 0 else twF A (2 * w) f + 1
theorem twF_is {A : Nat} : ∀ {f w : Nat}, A ≤ w * 2 ^ f → Twos A w (twF A w f)
  | 0, w, h => ⟨h, fun k hk => by unfold twF at hk; omega⟩
  | f + 1, w, h => by
    unfold twF
    by_cases h1 : A ≤ w
    · rw [if_pos h1]
      exact ⟨by rw [Nat.pow_zero, Nat.mul_one]; exact h1, fun k hk => by omega⟩
    · rw [if_neg h1]
      have e : ∀ k, w * 2 ^ (k + 1) = 2 * w * 2 ^ k := fun k => by rw [Nat.pow_succ, Nat.mul_comm 2 w, Nat.mul_assoc, Nat.mul_comm 2]
      have ih := twF_is (A := A) (f := f) (w := 2 * w) (by rw [← e]; exact h)
      refine ⟨by rw [e]; exact ih.1, fun k hk => ?_⟩
      match k, hk with
      | 0, _ => rw [Nat.pow_zero, Nat.mul_one]; omega
      | k + 1, hk => rw [e]; exact ih.2 k (by omega)
def tw (A w : Nat) : Nat := twF A w 17
theorem tw_is {A w : Nat} (h1 : 1 ≤ w) (h2 : A ≤ 120000) : Twos A w (tw A w) := by
  refine twF_is ?_
  have : 1 * 2 ^ 17 ≤ w * 2 ^ 17 := Nat.mul_le_mul_right _ h1
  have e : 1 * 2 ^ 17 = 131072 := by decide
  omega
theorem tw_le {A w t : Nat} (h1 : 1 ≤ w) (h2 : A ≤ 120000) (h : w * 2 ^ t < A) : t < 17 := by
  rcases Nat.lt_or_ge t 17 with h3 | h3
  · exact h3
  · have h4 : 2 ^ 17 ≤ 2 ^ t := Nat.pow_le_pow_right (by decide) h3
    have h5 : 1 * 2 ^ t ≤ w * 2 ^ t := Nat.mul_le_mul_right _ h1
    have e : 2 ^ 17 = 131072 := by decide
    omega
theorem sm_bound {w : Nat → Nat} : ∀ {n : Nat}, (∀ k, k < n → w k ≤ 10000) → Cm.sm w n ≤ n * 10000
  | 0, _ => Nat.le_refl _
  | n + 1, h => by
    have h1 := sm_bound (n := n) fun k hk => h k (by omega)
    have h2 := h n (by omega)
    show Cm.sm w n + w n ≤ _
    omega
end Hm
set_option maxHeartbeats 4000000 in
set_option maxRecDepth 100000 in
theorem treeShannon_walk (A : Option Addr) (n c : Nat) (g : Nat → Int) (w : World) (h : IRow w A n g) (hc : n ≤ c) (_ : n * 8 ≤ 140737488351232) :
    Calls Try.prog 5 #[.slice A n c] w fun e w' => e = .returned (.bool true) ∧ Below w.heap.size w w' := by
  go_enter Try.func5, Try.ntmps5
  go_wp2_with fail
  with_reducible refine (trees_ok _).mono ?_
  rintro e w1 ⟨rfl, hb1⟩
  have H1 := hid (h.keep hb1)
  clear h
  go_wp2_with fail
  with_reducible refine (Lens_any _ H1.out hc).mono ?_
  rintro e w2 ⟨⟨A2, m2, c2, rfl, hc2, hr2, z2, f2⟩, hb2⟩
  have H2 := hid (H1.out.keep hb2)
  have R2 := hid hr2
  have HB2 := hid (bl_then hb1 hb2)
  clear hr2 hb1 hb2 H1
  by_cases hE : Hm.wErr g n = 0
  · obtain rfl : m2 = n := f2 hE
    have hn := (Hm.wErr_zero.1 hE).1
    have HE := hid hE
    obtain ⟨q1, q2⟩ := lens_cost hE
    rw [hE]
    clear z2 f2 hE
    by_cases h2 : m2 < 2
    · have h2' : (m2 : Int) < 2 := by omega
      clear q1 q2
      go_wp2
      go_ret
      exact ⟨rfl, HB2.out⟩
    · have h2' : decide ((m2 : Int) < 2) = false := decide_eq_false (by omega)
      have hC := Cost_any w2 H2.out R2.out hc hc2
      rw [q1, q2] at hC
      clear q1 q2
      obtain ⟨W, hW⟩ : ∃ W, W = Cm.ln g := ⟨_, rfl⟩
      have HWg : Hid (∀ k, k < m2 → g k = ((W k : Nat) : Int) ∧ 1 ≤ W k ∧ W k ≤ 10000) := fun k hk => by
        have := Hm.ln_pos HE.out k hk
        rw [hW]
        exact ⟨this.2.2.symm, this.1, this.2.1⟩
      have HOp : Hid (Hm.Opt W (lensF g m2) m2) := by rw [hW]; exact lensF_opt HE.out
      have k1 := Hm.ctot_le (w := Cm.ln g) (l := lensF g m2) (n := m2) (fun k hk => by have := (Hm.ln_pos HE.out k hk).2.1; omega) (fun k hk => ((lensF_opt HE.out).len k hk).2)
      rw [← hW] at hC k1
      have HRow : Hid (∀ k, k < m2 → ∃ b o, A = some ⟨b, o, none⟩ ∧ b < w2.heap.size ∧ w2.cell? ⟨b, o + k, none⟩ = some (.int .i64 ((W k : Nat) : Int))) := by
        intro k hk
        obtain ⟨b, o, e1, e2, e3⟩ := H2.out k hk
        exact ⟨b, o, e1, e2, by rw [e3, (HWg.out k hk).1]⟩
      have hall : Cm.sm W m2 ≤ 120000 := by
        have := Hm.sm_bound (w := W) (n := m2) (fun k hk => (HWg.out k hk).2.2)
        omega
      have HSh : Hid (Hm.ctot W (lensF g m2) m2 ≤ Hm.ctot W (fun k => Hm.tw (Cm.sm W m2) (W k)) m2 ∧ Hm.ctot W (fun k => Hm.tw (Cm.sm W m2) (W k)) m2 ≤ Hm.ctot W (lensF g m2) m2 + Cm.sm W m2 ∧ Cm.sm W m2 ≤ Hm.ctot W (lensF g m2) m2) :=
        HOp.out.shannon (fun k hk => (HWg.out k hk).2.1) (by omega) (fun k hk => Hm.tw_is (HWg.out k hk).2.1 hall)
      generalize Hm.ctot W (lensF g m2) m2 = cN at hC k1 HSh
      clear hW HOp HE
      go_wp2_with fail
      with_reducible refine hC.mono ?_
      rintro e w3 ⟨rfl, hb3⟩
      have HR3 : Hid (∀ k, k < m2 → ∃ b o, A = some ⟨b, o, none⟩ ∧ w3.cell? ⟨b, o + k, none⟩ = some (.int .i64 ((W k : Nat) : Int))) := by
        intro k hk
        obtain ⟨b, o, e1, e2, e3⟩ := HRow.out k hk
        exact ⟨b, o, e1, (hb3.cell (p := ⟨b, o + k, none⟩) e2).trans e3⟩
      have HB3 := hid (bl_then HB2.out hb3)
      clear hC hb3 H2 R2 HB2 HRow
      go_wp2
      go_loopw [7, 43] (fun x y wr => ∃ i s : Nat, i ≤ m2 ∧ s ≤ i * 10000 ∧ x = .int .i64 (s : Int) ∧ y = .int .i64 (i : Int) ∧ Hid (s = Cm.sm W i) ∧ w3 = wr) (fun _ y _ => m2 - (intOf y).toNat)
      case atStart => exact ⟨0, 0, by omega, by omega, rfl, rfl, rfl, rfl⟩
      case round =>
        obtain ⟨i, s, hi, hs, rfl, rfl, HS, rfl⟩ := hrel
        by_cases hlt : i < m2
        · have hlt' : (i : Int) < (m2 : Int) := by omega
          obtain ⟨b, o, rfl, hci⟩ := HR3.out i hlt
          have hwi := (HWg.out i hlt).2
          have HS2 : Hid (s + W i = Cm.sm W (i + 1)) := by
            show _ = Cm.sm W i + W i
            rw [HS.out]
          generalize W i = x at hci hwi HS2
          clear HS
          go_wp2
          go_roundw
          case measure => simp [intOf]; omega
          case rel => exact ⟨i + 1, s + x, by omega, by omega, by go_num, by go_num, HS2, by trivial⟩
        · have hdl : decide ((i : Int) < (m2 : Int)) = false := decide_eq_false (by omega)
          obtain rfl : m2 = i := by omega
          rw [← HS.out] at HSh hall
          clear HS
          go_wp2
          go_loopw [8, 53] (fun x y wr => ∃ i mo : Nat, i ≤ m2 ∧ mo ≤ i * 170000 ∧ x = .int .i64 (mo : Int) ∧ y = .int .i64 (i : Int) ∧ Hid (mo = Hm.ctot W (fun k => Hm.tw s (W k)) i) ∧ w3 = wr) (fun _ y _ => m2 - (intOf y).toNat)
          case atStart => exact ⟨0, 0, by omega, by omega, rfl, rfl, rfl, rfl⟩
          case round =>
            obtain ⟨i, mo, hi, hmo, rfl, rfl, HM, rfl⟩ := hrel
            by_cases hlt : i < m2
            · have hlt' : (i : Int) < (m2 : Int) := by omega
              obtain ⟨b, o, rfl, hci⟩ := HR3.out i hlt
              have hwi := (HWg.out i hlt).2
              have HM2 : Hid (∀ t, Hm.Twos s (W i) t → mo + W i * t = Hm.ctot W (fun k => Hm.tw s (W k)) (i + 1)) := by
                intro t ht
                have e := ht.unique (Hm.tw_is hwi.1 hall)
                show _ = Hm.ctot W (fun k => Hm.tw s (W k)) i + W i * Hm.tw s (W i)
                rw [← HM.out, ← e]
              generalize W i = x at hci hwi HM2
              clear HM
              go_wp2
              go_loopw [13] (fun y wr => ∃ t : Nat, t ≤ 17 ∧ y = .int .i64 (t : Int) ∧ Hid (∀ k, k < t → x * 2 ^ k < s) ∧ w3 = wr) (fun y _ => 18 - (intOf y).toNat)
              case atStart => exact ⟨0, by omega, rfl, fun k hk => by omega, rfl⟩
              case round =>
                obtain ⟨t, ht, rfl, HT, rfl⟩ := hrel
                obtain ⟨p, hp⟩ : ∃ p : Nat, p = x * 2 ^ t := ⟨_, rfl⟩
                have hpp : (x : Int) * 2 ^ t = (p : Int) := by rw [hp, Int.natCast_mul, Int.natCast_pow]; rfl
                have hpb : p ≤ 1310720000 := by
                  rw [hp]
                  have h4 : 2 ^ t ≤ 2 ^ 17 := Nat.pow_le_pow_right (by decide) ht
                  exact Nat.le_trans (Nat.mul_le_mul hwi.2 h4) (by decide)
                have hpw : IntKind.i64.wrap (p : Int) = (p : Int) := IntWalk.i64_in _ (by omega)
                have HP := hid hp
                clear hp
                by_cases hps : p < s
                · have hps' : (p : Int) < (s : Int) := by omega
                  have ht17 : t < 17 := Hm.tw_le hwi.1 hall (by rw [← HP.out]; exact hps)
                  have HT2 : Hid (∀ k, k < t + 1 → x * 2 ^ k < s) := by
                    intro k hk
                    by_cases e : k = t
                    · rw [e, ← HP.out]; exact hps
                    · exact HT.out k (by omega)
                  clear HT HP
                  go_wp2
                  go_roundw
                  case measure => simp [intOf]; omega
                  case rel => exact ⟨t + 1, by omega, by go_num, HT2, by trivial⟩
                · have hps' : decide ((p : Int) < (s : Int)) = false := decide_eq_false (by omega)
                  have HM3 : Hid (mo + x * t = Hm.ctot W (fun k => Hm.tw s (W k)) (i + 1)) := HM2.out t ⟨by rw [← HP.out]; omega, HT.out⟩
                  obtain ⟨z, hz⟩ : ∃ z : Nat, z = x * t := ⟨_, rfl⟩
                  have hzz : (x : Int) * (t : Int) = (z : Int) := by rw [hz, Int.natCast_mul]
                  have hzb : z ≤ 170000 := by
                    rw [hz]
                    exact Nat.le_trans (Nat.mul_le_mul hwi.2 ht) (by decide)
                  have hzw : IntKind.i64.wrap (z : Int) = (z : Int) := IntWalk.i64_in _ (by omega)
                  rw [← hz] at HM3
                  clear HT HP HM2 hz
                  go_wp2
                  go_roundw
                  case measure => simp [intOf]; omega
                  case rel => exact ⟨i + 1, mo + z, by omega, by omega, by go_num, by go_num, HM3, by trivial⟩
            · have hdl : decide ((i : Int) < (m2 : Int)) = false := decide_eq_false (by omega)
              obtain rfl : m2 = i := by omega
              rw [← HM.out] at HSh
              obtain ⟨s1, s2, s3⟩ := HSh.out
              have t1 : (cN : Int) ≤ (mo : Int) := by omega
              have t2 : (mo : Int) - (s : Int) ≤ (cN : Int) := by omega
              have t3 : (s : Int) ≤ (cN : Int) := by omega
              have t4 : IntKind.i64.wrap ((mo : Int) - (s : Int)) = (mo : Int) - (s : Int) := IntWalk.i64_in _ (by omega)
              clear HM HSh
              go_wp2
              go_ret
              exact ⟨rfl, HB3.out⟩
  · obtain rfl : m2 = 0 := z2 hE
    have hE' : (Hm.wErr g n != 0) = true := bne_iff_ne.2 hE
    have hE2 : (Hm.wErr g n == 0) = false := beq_eq_false_iff_ne.2 hE
    clear z2 f2 H2 R2
    generalize Hm.wErr g n = t at hE hE' hE2
    go_wp2
    go_ret
    exact ⟨rfl, HB2.out⟩
end Go.Proofs.Ytppochjhodafdaa
