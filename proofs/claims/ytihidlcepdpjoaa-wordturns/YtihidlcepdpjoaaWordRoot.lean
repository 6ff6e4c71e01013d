/-
The walk of quillkeep.WordRoot: it returns true for every string and number.
-/
import Derived.Test.YtihidlcepdpjoaaWordPowers
import Derived.Test.YtihidlcepdpjoaaRootOf
namespace Go.Proofs.Ytihidlcepdpjoaa
open Go.RowKit

theorem rootLen_eq {s : ByteArray} {d : Nat} (h0 : 0 < s.size) (h : Wm.Root (byt s) s.size d) : rootLen s = d := (rootLen_root h0).unique h
theorem rootS_root {s : ByteArray} (h0 : 0 < s.size) : rootS (rootS s) = rootS s ∧ rootN (rootS s) = 1 := by
  have hz := rootS_size h0
  have hl := rootLen_le h0
  have hr : rootLen (rootS s) = rootLen s := by
    refine rootLen_eq (by omega) ?_
    rw [hz]
    have R := Wm.root_root h0 (rootLen_root h0)
    exact ⟨R.1.congr fun i hi => (rootS_byt h0 hi).symm, fun e he => R.2 e (he.congr fun i hi => rootS_byt h0 hi)⟩
  constructor
  · rw [str_eq', rootS_size (s := rootS s) (by omega), hr, hz]
    exact ⟨rfl, fun i hi => by rw [rootS_byt (s := rootS s) (by omega) (by omega)]⟩
  · unfold rootN
    rw [if_neg (by omega), hz, hr, Nat.div_self (by omega)]
    rfl
theorem rep_root {s : ByteArray} {c : Nat} (h0 : 0 < s.size) (hc : 0 < c) : rootS (rep s c) = rootS s ∧ rootN (rep s c) = ((c * (s.size / rootLen s) : Nat) : Int) := by
  have hl := rootLen_le h0
  have hz := rep_size s c
  have hp : 0 < c * s.size := Nat.mul_pos hc h0
  have hcn : s.size ≤ c * s.size := Nat.le_mul_of_pos_left _ hc
  have hr : rootLen (rep s c) = rootLen s := by
    refine rootLen_eq (by omega) ?_
    rw [hz]
    exact Wm.root_power h0 hc (rootLen_root h0) fun i hi => rep_byt hi
  constructor
  · rw [str_eq', rootS_size (by omega), rootS_size h0, hr]
    refine ⟨rfl, fun i hi => ?_⟩
    rw [rootS_byt (by omega) (by omega), rootS_byt h0 hi, rep_byt (by omega), Nat.mod_eq_of_lt (by omega)]
  · unfold rootN
    rw [if_neg (by omega), hz, hr, Nat.mul_div_assoc c (rootLen_root h0).1.2.1]
theorem root_rep {s : ByteArray} (h0 : 0 < s.size) : rep (rootS s) (s.size / rootLen s) = s := by
  have hl := rootLen_le h0
  have R := rootLen_root h0
  have hm : s.size / rootLen s * rootLen s = s.size := Nat.div_mul_cancel R.1.2.1
  rw [str_eq', rep_size, rootS_size h0, hm]
  refine ⟨rfl, fun i hi => ?_⟩
  have := Nat.mod_lt i hl.1
  rw [rep_byt (by rw [rootS_size h0, hm]; exact hi), rootS_size h0, rootS_byt h0 this, ← R.1.2.2.mod i hi]

def aba : ByteArray := ⟨#[97, 98, 97]⟩
theorem aba_root : rootS aba = ⟨#[97, 98, 97]⟩ ∧ rootN aba = 1 := by decide +kernel

theorem wordRoot_large (s : ByteArray) (n : Int) (w : World) (hs : 200 < s.size) :
    Calls Try.prog 8 #[.string s, .int .i64 n] w fun e w' => e = .returned (.bool true) ∧ Below w.heap.size w w' := by
  go_enter Try.func8, Try.ntmps8
  go_wp2_with fail
  refine (Root_any aba _ (by decide)).mono ?_
  rw [aba_root.1, aba_root.2]
  rintro e w1 ⟨rfl, hb1⟩
  go_wp2_with fail
  with_reducible refine (Root_large s _ hs).mono ?_
  rintro e w2 ⟨rfl, rfl⟩
  go_wp2
  go_ret
  exact ⟨rfl, hb1⟩
theorem wordRoot_empty (s : ByteArray) (n : Int) (w : World) (h0 : s.size = 0) :
    Calls Try.prog 8 #[.string s, .int .i64 n] w fun e w' => e = .returned (.bool true) ∧ Below w.heap.size w w' := by
  have he := no_bytes h0
  go_enter Try.func8, Try.ntmps8
  go_wp2_with fail
  refine (Root_any aba _ (by decide)).mono ?_
  rw [aba_root.1, aba_root.2]
  rintro e w1 ⟨rfl, hb1⟩
  go_wp2_with fail
  with_reducible refine (Root_empty s _ h0).mono ?_
  rintro e w2 ⟨rfl, rfl⟩
  go_wp2
  go_ret
  exact ⟨rfl, hb1⟩

set_option maxHeartbeats 1000000 in
theorem wordRoot_ok (s : ByteArray) (n : Int) (w : World) (hs : s.size ≤ 200) (h0 : 0 < s.size) :
    Calls Try.prog 8 #[.string s, .int .i64 n] w fun e w' => e = .returned (.bool true) ∧ Below w.heap.size w w' := by
  have he := some_bytes h0
  have hl := rootLen_le h0
  obtain ⟨K, hK⟩ : ∃ K, K = s.size / rootLen s := ⟨_, rfl⟩
  have hN : rootN s = (K : Int) := by unfold rootN; rw [if_neg (by omega), hK]
  have hK1 : 1 ≤ K := by rw [hK]; exact (Nat.le_div_iff_mul_le hl.1).2 (by omega)
  have hK2 : K ≤ s.size := by rw [hK]; exact Nat.div_le_self _ _
  have hrr := rootS_root h0
  have hrep : rep (rootS s) K = s := by rw [hK]; exact root_rep h0
  have hRz : (rootS s).size ≤ 200 := by rw [rootS_size h0]; omega
  obtain ⟨M, hM⟩ : ∃ M, M = 200 / s.size := ⟨_, rfl⟩
  have hM1 : 1 ≤ M := by rw [hM]; exact (Nat.le_div_iff_mul_le h0).2 (by omega)
  have hM2 : M * s.size ≤ 200 := by rw [hM]; exact Nat.div_mul_le_self 200 s.size
  have hM3 : M ≤ 200 := by rw [hM]; exact Nat.div_le_self _ _
  have hMI : (200 : Int) / (s.size : Int) = (M : Int) := by rw [hM]; rfl
  have hr0 := Int.emod_nonneg n (show (M : Int) ≠ 0 by omega)
  have hr1 := Int.emod_lt_of_pos n (show (0 : Int) < (M : Int) by omega)
  obtain ⟨r, hr⟩ : ∃ r : Nat, r = (n % (M : Int)).toNat := ⟨_, rfl⟩
  have hrM : r < M := by omega
  have hsz : (rep s (1 + r)).size ≤ 200 := by
    rw [rep_size]
    exact Nat.le_trans (Nat.mul_le_mul_right _ (show 1 + r ≤ M by omega)) hM2
  have hpr := rep_root (c := 1 + r) h0 (by omega)
  rw [← hK] at hpr
  obtain ⟨NK, hNK⟩ : ∃ NK, NK = (1 + r) * K := ⟨_, rfl⟩
  rw [← hNK] at hpr
  have hNKb : NK ≤ 40000 + 200 := by rw [hNK]; exact Nat.le_trans (Nat.mul_le_mul (show 1 + r ≤ 201 by omega) (show K ≤ 200 by omega)) (by decide)
  have hmul : wrap64 ((1 + (r : Int)) * (K : Int)) = (NK : Int) := by
    have e : (1 + (r : Int)) * (K : Int) = (NK : Int) := by rw [hNK]; simp
    rw [e]
    exact IntWalk.wrap64_in _ ⟨by omega, by omega⟩
  have HN := hid hN
  have HRR := hid hrr
  have HREP := hid hrep
  have HPR := hid hpr
  have HR := hid hr
  have HMUL := hid hmul
  clear hK hN hrr hrep hM hr hpr hNK hr0 hr1 hmul
  go_enter Try.func8, Try.ntmps8
  go_wp2_with fail
  refine (Root_any aba _ (by decide)).mono ?_
  rw [aba_root.1, aba_root.2]
  rintro e w1 ⟨rfl, hb1⟩
  go_wp2_with fail
  with_reducible refine (Root_any s _ hs).mono ?_
  rw [HN.out]
  rintro e w2 ⟨rfl, hb2⟩
  go_wp2_with fail
  with_reducible refine (Root_any (rootS s) _ hRz).mono ?_
  rw [HRR.out.1, HRR.out.2]
  rintro e w3 ⟨rfl, hb3⟩
  go_wp2_with fail
  rw [show max (1 : Int) (M : Int) = (M : Int) by omega]
  with_reducible refine (within_any n M _ (by omega) (by omega)).mono ?_
  rw [← HR.out]
  rintro e w3' ⟨rfl, rfl⟩
  go_wp2_with fail
  with_reducible refine (repeat_any s _ (1 + r) _ (by omega) (by omega) (by omega)).mono ?_
  rintro e w4 ⟨rfl, hb4⟩
  go_wp2_with fail
  with_reducible refine (Root_any (rep s (1 + r)) _ hsz).mono ?_
  rw [HPR.out.1, HPR.out.2]
  rintro e w5 ⟨rfl, hb5⟩
  go_wp2_with fail
  with_reducible refine (good_ok _ 2 2 _ (by omega) (two_zeros _ _)).mono ?_
  rintro e w6 ⟨rfl, rfl⟩
  go_wp2_with fail
  with_reducible refine (repeat_any (rootS s) _ K _ rfl (by omega) (by omega)).mono ?_
  rw [HREP.out]
  rintro e w7 ⟨rfl, hb7⟩
  have hfin := hid (bl_then (bl_then (bl_then (bl_then (bl_then (bl_then hb1 hb2) hb3) hb4) hb5) (bl_new w5 (.cells #[.int .i64 0, .int .i64 0] 25))) hb7)
  have hmul := HMUL.out
  clear hb1 hb2 hb3 hb4 hb5 hb7
  go_wp2
  go_ret
  exact ⟨rfl, hfin.out⟩

theorem wordRoot_walk (s : ByteArray) (n : Int) (_ : s.size ≤ maxLen) (_ : (Lit.int .i64 n).wf = true) (w : World) :
    Calls Try.prog 8 #[.string s, .int .i64 n] w fun e w' => e = .returned (.bool true) ∧ Below w.heap.size w w' := by
  by_cases hs : s.size ≤ 200
  · by_cases h0 : 0 < s.size
    · exact wordRoot_ok s n w hs h0
    · exact wordRoot_empty s n w (by omega)
  · exact wordRoot_large s n w (by omega)
end Go.Proofs.Ytihidlcepdpjoaa
