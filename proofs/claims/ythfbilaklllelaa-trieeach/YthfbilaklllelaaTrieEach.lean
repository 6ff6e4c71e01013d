/-
The walk of quillkeep.TrieEach: it returns true for all strings and lists of patterns.
-/
import Derived.Test.YthfbilaklllelaaEachMath
import Derived.Test.YthfbilaklllelaaHIndex
namespace Go.Proofs.Ythfbilaklllelaa
open Go.RowKit

theorem cnt_le (l p : (List UInt8)) (k : Nat) : cnt l p k ≤ k := by
  unfold cnt
  refine Nat.le_trans (List.length_filter_le _ _) (by simp)
theorem sumN_le {f : Nat → Nat} {B : Nat} (h : ∀ k, f k ≤ B) : ∀ n, sumN f n ≤ n * B
  | 0 => by simp [sumN]
  | n + 1 => by
    unfold sumN
    rw [Nat.succ_mul]
    have := sumN_le h n
    have := h n
    omega

set_option maxHeartbeats 2000000 in
set_option maxRecDepth 100000 in
theorem each_ok (s : ByteArray) (A : Option Addr) (n c : Nat) (g : Nat → ByteArray) (w : World) (hs : s.size ≤ 200) (hrow : SRow w A n g) (hc : n ≤ c) (hx : patsErr g n = 0) :
    Calls Try.prog 4 #[.string s, .slice A n c] w fun e w' => e = .returned (.bool true) ∧ Below w.heap.size w w' := by
  have hn := (good_of hx).few
  have HG := hid (good_of hx)
  have HR := hid hrow
  clear hrow
  go_enter Try.func4, Try.ntmps4
  go_wp2_with fail
  with_reducible refine (tries_true _).mono ?_
  rintro e w0 ⟨rfl, hb0⟩
  have HR0 := hid (HR.out.keep hb0)
  go_wp2_with fail
  with_reducible refine (TFind_ok _ _ _ _ g s hs HR0.out hc hx).mono ?_
  rintro e w1 ⟨v, rfl, ho, hb1⟩
  obtain ⟨A1, c1, rfl, hc1, hrow⟩ := ho.row
  obtain ⟨m, hm⟩ : ∃ m, m = (hitsL g n (wd s) s.size).length := ⟨_, rfl⟩
  obtain ⟨hf, hhf⟩ : ∃ hf, hf = fun k => (hitsL g n (wd s) s.size).getD k (0, 0) := ⟨_, rfl⟩
  have hlen := hitsL_len g n (wd s) s.size
  have hmul : s.size * n ≤ 2000 := Nat.le_trans (Nat.mul_le_mul hs hn) (by omega)
  have HC : Hid (∀ a j, a < s.size → j < n → wd (g j) <+: (wd s).drop a → ∃ i, i < m ∧ hf i = (a, j)) := by
    rw [hm, hhf]
    exact fun a j ha hj hp => hits_has ha hj hp
  have HL : Hid (∀ i, i + 1 < m → (hf i).1 < (hf (i + 1)).1 ∨ ((hf i).1 = (hf (i + 1)).1 ∧ (hf i).2 < (hf (i + 1)).2)) := by
    rw [hm, hhf]
    exact fun i hi => hits_lt hi
  obtain ⟨ct, hct⟩ : ∃ ct : Nat → Nat, ct = fun j => cnt (wd s) (wd (g j)) s.size := ⟨_, rfl⟩
  have HSum : Hid (sumN ct n = m) := by
    rw [hm, hct]
    exact (hits_sum g n (wd s) s.size).symm
  have HFi : Hid (∀ k, k < n → (fiL s (g k)).length = ct k) := by
    rw [hct]
    exact fun k hk => fiL_cnt (HG.out.pos k hk)
  have HCt : Hid (∀ k, sumN ct k ≤ k * 200) := by
    rw [hct]
    exact sumN_le (fun k => Nat.le_trans (cnt_le _ _ _) hs)
  rw [← hm] at hrow hlen hc1 ⊢
  rw [← hhf] at hrow
  have HH := hid hrow
  have HB := hid (bl_then hb0 hb1)
  have HR1 := hid (HR0.out.keep hb1)
  have hm2 : m ≤ 2000 := by omega
  clear hrow ho hb0 hb1 HR HR0 hlen hmul hm hhf hct
  go_wp2
  go_loopw [7, 30] (fun t i wr => ∃ k : Nat, k ≤ n ∧ i = .int .i64 k ∧ t = .int .i64 (sumN ct k : Int) ∧ Below w1.heap.size w1 wr) (fun _ i _ => n - (intOf i).toNat)
  case atStart => exact ⟨0, by omega, rfl, rfl, Below.refl _ _⟩
  case round =>
    obtain ⟨k, hk, rfl, rfl, hbel⟩ := hrel
    by_cases h : k < n
    · obtain ⟨b, o, rfl, hlt, hce0⟩ := HR1.out k h
      have hce := (hbel.cell (p := ⟨b, o + k, none⟩) hlt).trans hce0
      have hp200 : (g k).size ≤ 200 := by have := HG.out.short k h; omega
      have hp0 := HG.out.pos k h
      clear hce0
      go_wp2_with fail
      with_reducible refine (Find_ok s (g k) _ hs hp200 hp0).mono ?_
      rintro e w2 ⟨A2, c2, rfl, hrow2, hb2⟩
      obtain ⟨q, hq⟩ : ∃ q, q = (fiL s (g k)).length := ⟨_, rfl⟩
      have hq2 : q ≤ 200 := by rw [hq]; exact Nat.le_trans (fiL_len hp0) hs
      obtain ⟨t, ht⟩ : ∃ t, t = sumN ct k := ⟨_, rfl⟩
      obtain ⟨t', ht'⟩ : ∃ t', t' = sumN ct (k + 1) := ⟨_, rfl⟩
      have htt : (t : Int) + (q : Int) = (t' : Int) := by
        rw [ht', ht, hq, HFi.out k h]
        show _ = ((sumN ct k + ct k : Nat) : Int)
        omega
      have ht2 : t' ≤ 200 * 10 := by
        rw [ht']
        have := HCt.out (k + 1)
        have : (k + 1) * 200 ≤ 10 * 200 := Nat.mul_le_mul_right _ (by omega)
        omega
      have hwt : IntKind.i64.wrap (t' : Int) = (t' : Int) := IntWalk.i64_in _ (by omega)
      obtain ⟨f2, hf2⟩ : ∃ f2, f2 = fun i => (fiL s (g k)).getD i 0 := ⟨_, rfl⟩
      have HP : Hid (∀ i, i < q → ∃ x : Nat, f2 i = (x : Int) ∧ ∃ y, y < m ∧ hf y = (x, k)) := by
        intro i hi
        rw [hq] at hi
        obtain ⟨x, hx1, hx2⟩ := fiL_get hi
        have hxs : x < s.size := by have := hx2.1; omega
        exact ⟨x, by rw [hf2]; exact hx1, HC.out x k hxs h ((stands_iff (by omega)).1 hx2)⟩
      rw [← hq] at hrow2 ⊢
      rw [← hf2] at hrow2
      rw [← ht]
      have HR2 := hid hrow2
      have HB2 := hid hb2
      have HB12 := hid (bl_then hbel hb2)
      have HT := hid ht
      have HT' := hid ht'
      clear hrow2 hb2 hq hf2 ht ht' hce
      go_wp2
      go_loopw [49] (fun i wi => ∃ j : Nat, j ≤ q ∧ i = .int .i64 j ∧ Below w2.heap.size w2 wi) (fun i _ => q - (intOf i).toNat)
      case atStart => exact ⟨0, by omega, rfl, Below.refl _ _⟩
      case round =>
        obtain ⟨j, hj, rfl, hbj⟩ := hrel
        by_cases hjq : j < q
        · obtain ⟨b2, o2, rfl, _, hcj⟩ := (HR2.out.keep hbj) j hjq
          obtain ⟨x, hx1, hx2⟩ := HP.out j hjq
          rw [hx1] at hcj
          have HX := hid hx2
          have HHj := hid (HH.out.keep (bl_then HB12.out hbj))
          clear hx1 hx2
          go_wp2_with fail
          with_reducible refine (hcontains_yes (x := (x, k)) HHj.out (by omega) HX.out).mono ?_
          rintro e w3 ⟨rfl, hb3⟩
          go_wp2
          go_roundw
          case measure => simp [intOf]; omega
          case rel => exact ⟨j + 1, by omega, by go_num, bl_then hbj hb3⟩
        · obtain rfl : j = q := by omega
          go_wp2
          go_roundw
          case measure => simp [intOf]; omega
          case rel => exact ⟨k + 1, by omega, by go_num, by rw [HT'.out], bl_then HB12.out hbj⟩
    · obtain rfl : k = n := by omega
      rw [HSum.out]
      have HHw := hid (HH.out.keep hbel)
      have HBw := hid (bl_then HB.out hbel)
      go_wp2
      go_loopw [14] (fun x wi => ∃ i : Nat, 1 ≤ i ∧ i ≤ max 1 m ∧ x = .int .i64 i ∧ ∃ d, wi = wr.drewN d) (fun x _ => max 1 m - (intOf x).toNat)
      case atStart => exact ⟨1, by omega, by omega, rfl, 0, rfl⟩
      case round =>
        obtain ⟨i, hi1, hi2, rfl, d, rfl⟩ := hrel
        by_cases him : i < m
        · obtain ⟨ip, hip⟩ : ∃ ip, ip = i - 1 := ⟨_, rfl⟩
          have hord := HL.out ip (by omega)
          rw [show ip + 1 = i by omega] at hord
          obtain ⟨b, o, rfl, _, y1, y2⟩ := HHw.out i him
          obtain ⟨b', o', e', _, x1, x2⟩ := HHw.out ip (by omega)
          cases e'
          have eim : (i : Int) - 1 = (ip : Int) := by omega
          have hwp : IntKind.i64.wrap (ip : Int) = (ip : Int) := IntWalk.i64_in _ (by omega)
          have hpq : (ip : Int) < (m : Int) := by omega
          have hpq2 : ip < m := by omega
          have hp0 : (0 : Int) ≤ (ip : Int) := by omega
          have him' : (i : Int) < (m : Int) := by omega
          have hi0 : (0 : Int) ≤ (i : Int) := by omega
          have hi2000 : i ≤ 2000 := by omega
          generalize hf i = Y at hord y1 y2
          generalize hf ip = X at hord x1 x2
          have hg1 : decide ((Y.1 : Int) < (X.1 : Int)) = false := decide_eq_false (by omega)
          have hg2 : decide (Y.1 < X.1) = false := decide_eq_false (by omega)
          have HI := hid hip
          clear hip
          by_cases hxy : X.1 = Y.1
          · have hg3 : ((X.1 : Int) == (Y.1 : Int)) = true := by simp; omega
            have hg4 : decide ((Y.2 : Int) ≤ (X.2 : Int)) = false := decide_eq_false (by omega)
            have hg5 : decide (Y.2 ≤ X.2) = false := decide_eq_false (by omega)
            clear hord hxy
            go_wp2
            go_quiet (fail)
            go_wp2
            go_roundw
            case measure => simp [intOf]; omega
            case rel => exact ⟨i + 1, by omega, by omega, by go_num, _, rfl⟩
          · have hg3 : ((X.1 : Int) == (Y.1 : Int)) = false := by simp; omega
            clear hord hxy
            go_wp2
            go_quiet (fail)
            go_wp2
            go_roundw
            case measure => simp [intOf]; omega
            case rel => exact ⟨i + 1, by omega, by omega, by go_num, _, rfl⟩
        · have him' : decide (i < m) = false := decide_eq_false him
          have hee : ((m : Int) == (m : Int)) = true := by simp
          go_wp2
          go_ret
          exact ⟨rfl, bl_drewN HBw.out _⟩

theorem trieEach_walk (s : ByteArray) (A : Option Addr) (n c : Nat) (g : Nat → ByteArray) (w : World) (_ : s.size ≤ 140737488351232) (hrow : SRow w A n g) (hc : n ≤ c) (_ : n * 16 ≤ 140737488351232) :
    Calls Try.prog 4 #[.string s, .slice A n c] w fun e w' => e = .returned (.bool true) ∧ Below w.heap.size w w' := by
  by_cases hs : s.size ≤ 200
  · by_cases hx : patsErr g n = 0
    · exact each_ok s A n c g w hs hrow hc hx
    · have HR := hid hrow
      clear hrow
      go_enter Try.func4, Try.ntmps4
      go_wp2_with fail
      with_reducible refine (tries_true _).mono ?_
      rintro e w0 ⟨rfl, hb0⟩
      go_wp2_with fail
      with_reducible refine (TFind_err _ _ _ _ g s hs (HR.out.keep hb0) hc hx).mono ?_
      rintro e w1 ⟨rfl, rfl⟩
      have hx' : (patsErr g n != 0) = true := bne_iff_ne.2 hx
      go_wp2
      go_ret
      exact ⟨rfl, hb0⟩
  · clear hrow
    go_enter Try.func4, Try.ntmps4
    go_wp2_with fail
    with_reducible refine (tries_true _).mono ?_
    rintro e w0 ⟨rfl, hb0⟩
    go_wp2_with fail
    with_reducible refine (TFind_large _ _ _ _ s (by omega)).mono ?_
    rintro e w1 ⟨rfl, rfl⟩
    go_wp2
    go_ret
    exact ⟨rfl, hb0⟩
end Go.Proofs.Ythfbilaklllelaa
