
/-
The least sequence in which each word stands once is a Lyndon word (few cases, by reckoning); and each word is found at one place of it, read as a ring and written out.
-/
import Derived.Test.YtapjodbaaejldaaRingLine
import Derived.Test.YtapjodbaaejldaaTurnMore
import Derived.Test.YtapjodbaaejldaaFind
namespace Go.Proofs.Ytapjodbaaejldaa
open Go.RowKit

/-- a is less than b, by some place of both. -/
def ltB : List Nat → List Nat → Bool
  | x :: a, y :: b => Nat.blt x y || (Nat.beq x y && ltB a b)
  | _, _ => false
/-- The word is less than each of its ends. -/
def lynB (L : List Nat) : Bool := (List.range L.length).all fun i => Nat.beq i 0 || ltB L (L.drop i)
theorem ltB_is : ∀ {a b : List Nat}, ltB a b = true → ∃ j, j < a.length ∧ j < b.length ∧ (∀ i, i < j → a.getD i 0 = b.getD i 0) ∧ a.getD j 0 < b.getD j 0
  | [], _, h => by simp [ltB] at h
  | _ :: _, [], h => by simp [ltB] at h
  | x :: a, y :: b, h => by
    simp only [ltB, Bool.or_eq_true, Bool.and_eq_true] at h
    rcases h with h | ⟨h1, h2⟩
    · exact ⟨0, by simp, by simp, fun i hi => absurd hi (Nat.not_lt_zero _), (show x < y from Nat.le_of_ble_eq_true h)⟩
    · obtain ⟨j, g1, g2, g3, g4⟩ := ltB_is h2
      have e := Nat.eq_of_beq_eq_true h1
      refine ⟨j + 1, by simpa using g1, by simpa using g2, fun i hi => ?_, by simpa using g4⟩
      cases i with
      | zero => simpa using e
      | succ i => simpa using g3 i (by omega)
theorem lyn_sd {L : List Nat} (h0 : 0 < L.length) (hL : ∀ x, x ∈ L → x < 100) (h : lynB L = true) : LynS (sd L) := by
  have hz : (wd (sd L)).length = L.length := by rw [wd_len, sd_size]
  have hb : ∀ i, i < L.length → Lm.bn (wd (sd L)) i = 97 + L.getD i 0 := fun i hi => by
    have := sd_at hi hL
    exact this
  refine ⟨by rw [hz]; exact h0, fun k hk0 hk => ?_⟩
  rw [hz] at hk
  unfold lynB at h
  have h1 := List.all_eq_true.1 h k (List.mem_range.2 hk)
  rw [Bool.or_eq_true] at h1
  rcases h1 with h1 | h1
  · exact absurd (Nat.eq_of_beq_eq_true h1) (by omega)
  · obtain ⟨j, g1, g2, g3, g4⟩ := ltB_is h1
    rw [List.length_drop] at g2
    have gd : ∀ i, (L.drop k).getD i 0 = L.getD (k + i) 0 := fun i => by
      rw [List.getD_eq_getElem?_getD, List.getElem?_drop, List.getD_eq_getElem?_getD]
    refine ⟨j, by rw [hz]; omega, fun i hi => ?_, ?_⟩
    · rw [hb i (by omega), hb (k + i) (by omega), g3 i hi, gd]
    · rw [hb j (by omega), hb (k + j) (by omega)]
      rw [gd] at g4
      omega
theorem lyn_few : ∀ k, k < 5 → 2 ≤ k → ∀ n, n < 8 → 1 ≤ n → k ^ n ≤ 150 → lynB (Rm.lineD k n) = true := by decide +kernel
/-- In the ring: each word at one place. -/
theorem occ_hc (L b : List Nat) (hL : ∀ x, x ∈ L → x < 100) (hb : ∀ x, x ∈ b → x < 100) (h0 : 0 < L.length) : Tm.occ (lst (sd L)) (lst (sd b)) = Rm.hc L b.length b L.length := by
  have hz : (lst (sd L)).length = L.length := by rw [lst_len, sd_size]
  have hzb : (lst (sd b)).length = b.length := by rw [lst_len, sd_size]
  have key : ∀ m, Tm.cnt (fun i => decide (Tm.cy (lst (sd L)) i (lst (sd b)).length = lst (sd b))) m = Rm.hc L b.length b m := by
    intro m
    induction m with
    | zero => rfl
    | succ m ih =>
      rw [Tm.cnt, Rm.hc, ih]
      have hw : sd (Rm.win L b.length m) = mkS (Tm.cy (lst (sd L)) m b.length) := by
        apply lst_inj_
        rw [lst_mk]
        show wd _ = _
        rw [wd_sd]
        unfold Rm.win Tm.cy Tm.W
        rw [List.map_map]
        refine List.map_congr_left fun j hj => ?_
        rw [hz]
        have e : (lst (sd L)).getD ((m + j) % L.length) 0 = UInt8.ofNat (97 + L.getD ((m + j) % L.length) 0) := by
          have hlt := Nat.mod_lt (m + j) h0
          show (wd (sd L)).getD _ 0 = _
          rw [wd_sd, List.getD_eq_getElem?_getD, List.getElem?_map, List.getD_eq_getElem?_getD, List.getElem?_eq_getElem hlt]
          rfl
        exact e.symm
      have hiff : (Tm.cy (lst (sd L)) m (lst (sd b)).length = lst (sd b)) ↔ Rm.win L b.length m = b := by
        rw [hzb]
        constructor
        · intro h
          refine sd_inj (Rm.win_mem h0 hL _ _) hb ?_
          rw [hw, h, mk_lst]
        · intro h
          have := congrArg lst hw
          rw [lst_mk, h] at this
          exact this.symm
      by_cases h : Rm.win L b.length m = b
      · rw [if_pos h, decide_eq_true (hiff.2 h)]; rfl
      · rw [if_neg h, decide_eq_false (fun q => h (hiff.1 q))]; rfl
  unfold Tm.occ
  rw [key, hz]
/-- Written out: as many places. -/
theorem places_hc {L b : List Nat} {x : ByteArray} {E : Nat} (hr : Rep (sd L) x) (hL : ∀ y, y ∈ L → y < 100) (hb : ∀ y, y ∈ b → y < 100) (h0 : 0 < L.length) (hn : 0 < b.length) (hE : E = L.length + b.length - 1) (hEx : E ≤ x.size) : (fiL (x.extract 0 E) (sd b)).length = Rm.hc L b.length b L.length := by
  have hz : (x.extract 0 E).size = E := by rw [size_ext]; omega
  have hzb : (sd b).size = b.length := sd_size b
  unfold fiL ocL
  rw [List.length_map, hz, hzb, show E + 1 - b.length = L.length by omega]
  have key : ∀ m, m ≤ L.length → (Wm.oc (byt (x.extract 0 E)) (byt (sd b)) b.length m).length = Rm.hc L b.length b m := by
    intro m
    induction m with
    | zero => exact fun _ => rfl
    | succ m ih =>
      intro hm
      rw [Wm.oc, Rm.hc, ← ih (by omega)]
      have hp := hr.part (n := b.length) (E := E) (i := m) (j := m + b.length) hL h0 hEx rfl (by omega)
      have hiff : Wm.At (byt (x.extract 0 E)) (byt (sd b)) b.length m ↔ Rm.win L b.length m = b := by
        constructor
        · intro h
          refine sd_inj (Rm.win_mem h0 hL _ _) hb ?_
          rw [← hp]
          refine wd_inj (Lm.bn_ext (by rw [wd_len, wd_len, size_ext, hz, hzb]; omega) fun t ht => ?_)
          rw [wd_len, size_ext, hz] at ht
          rw [bn_wd, bn_wd, byt_ext (by omega), h t (by omega)]
        · intro h t ht
          rw [h] at hp
          rw [← hp, byt_ext (by omega)]
      by_cases h : Rm.win L b.length m = b
      · rw [if_pos h, if_pos (hiff.2 h), List.length_append]; rfl
      · rw [if_neg h, if_neg (fun q => h (hiff.1 q))]; rfl
  exact key L.length (Nat.le_refl _)
end Go.Proofs.Ytapjodbaaejldaa
