/-
The walk of quillkeep.MirrorLongest: it returns true for every string and whatever two numbers.
-/
import Derived.Test.YtgeikpfbgdgciaaMirrors
import Derived.Test.YtgeikpfbgdgciaaBack
import Derived.Test.YtgeikpfbgdgciaaMaxI
import Derived.Test.YtgeikpfbgdgciaaIdxOf
namespace Go.Proofs.Ytgeikpfbgdgciaa
open Go.RowKit

theorem wm_lt (k : Int) (n : Nat) (h : 0 < n) : (k % n).toNat < n := by
  have h2 := Int.emod_nonneg k (show (n : Int) ≠ 0 by omega)
  have h3 := Int.emod_lt_of_pos k (show (0 : Int) < n by omega)
  omega
theorem back_iff {s : ByteArray} {a b : Nat} (hb : b ≤ s.size) : backS (s.extract a b) = s.extract a b ↔ Mm.Pal (byt s) a b := by
  rw [str_eq', backS_size]
  constructor
  · rintro ⟨_, h⟩ i h1 h2
    have hi : i - a < (s.extract a b).size := by rw [size_ext]; omega
    have := h (i - a) hi
    rw [backS_byt hi] at this
    rw [size_ext] at hi this
    rw [byt_ext (by omega), byt_ext (by omega), show a + (i - a) = i by omega] at this
    rw [← this]
    congr 1
    omega
  · intro h
    refine ⟨rfl, fun i hi => ?_⟩
    rw [backS_byt hi]
    rw [size_ext] at hi ⊢
    rw [byt_ext (by omega), byt_ext (by omega), h (a + i) (by omega) (by omega)]
    congr 1
    omega
theorem mirrorLongest_large (s : ByteArray) (i k : Int) (w : World) (hs : 200 < s.size) :
    Calls Try.prog 6 #[.string s, .int .i64 i, .int .i64 k] w fun e w' => e = .returned (.bool true) ∧ Below w.heap.size w w' := by
  go_enter Try.func6, Try.ntmps6
  go_wp2_with fail
  with_reducible refine (mirrors_ok _).mono ?_
  rintro e w1 ⟨rfl, hb1⟩
  go_wp2_with fail
  with_reducible refine (Longest_large s _ hs).mono ?_
  rintro e w2 ⟨rfl, rfl⟩
  go_wp2_with fail
  with_reducible refine (Arms_large s _ hs).mono ?_
  rintro e w2 ⟨rfl, rfl⟩
  go_wp2
  go_ret
  exact ⟨rfl, hb1⟩
set_option maxHeartbeats 1000000 in
theorem mirrorLongest_ok (s : ByteArray) (i k : Int) (w : World) (hs : s.size ≤ 200) (hm : ∃ m, w.cell? ⟨0, 0, none⟩ = some (.int .i64 m)) (hw : 0 < w.heap.size) :
    Calls Try.prog 6 #[.string s, .int .i64 i, .int .i64 k] w fun e w' => e = .returned (.bool true) ∧ Below w.heap.size w w' := by
  obtain ⟨m, hm⟩ := hm
  have HM := hid hm
  have HW := hid hw
  clear hm hw
  obtain ⟨L, hL⟩ : ∃ L, L = 2 * s.size + 1 := ⟨_, rfl⟩
  have hL1 : L ≤ 401 := by omega
  have hL2 : 0 < L := by omega
  have hL3 : ((L : Int) == 0) = false := beq_eq_false_iff_ne.2 (by omega)
  have HL := hid hL
  have hW2 := fun W => within_any i (s.size + 1) W (by omega) (by omega)
  have hW3 := fun W => within_any k (s.size + 1) W (by omega) (by omega)
  have hb := wm_lt i (s.size + 1) (by omega)
  have hc := wm_lt k (s.size + 1) (by omega)
  generalize (i % ((s.size + 1 : Nat) : Int)).toNat = b at hW2 hb
  generalize (k % ((s.size + 1 : Nat) : Int)).toNat = c at hW3 hc
  obtain ⟨z1, hz1⟩ : ∃ z1, z1 = s.size + 1 := ⟨_, rfl⟩
  rw [← hz1] at hW2 hW3
  have ez1 : (s.size : Int) + 1 = (z1 : Int) := by omega
  clear hz1
  obtain ⟨p, hp⟩ : ∃ p : Nat, p = min b c := ⟨_, rfl⟩
  obtain ⟨q, hq⟩ : ∃ q : Nat, q = max b c := ⟨_, rfl⟩
  have ep : min (b : Int) (c : Int) = (p : Int) := by omega
  have eq : max (b : Int) (c : Int) = (q : Int) := by omega
  have hpq : p ≤ q := by omega
  have hqs : q ≤ s.size := by omega
  have hpq' : (p : Int) ≤ (q : Int) := by omega
  have hqs' : (q : Int) ≤ (s.size : Int) := by omega
  clear hp hq hb hc
  go_enter Try.func6, Try.ntmps6
  go_wp2_with fail
  with_reducible refine (mirrors_ok _).mono ?_
  rintro e w1 ⟨rfl, hb1⟩
  go_wp2_with fail
  with_reducible refine (Longest_ok s _ hs).mono ?_
  rintro e w2 ⟨⟨a1, a2, rfl, hlg⟩, hb2⟩
  have HG := hid hlg
  clear hlg
  go_wp2_with fail
  with_reducible refine (Arms_ok s _ hs).mono ?_
  rintro e w3 ⟨A, cp, rfl, hr, hb3⟩
  rw [← hL] at hr ⊢
  clear hL
  obtain ⟨B, o, rfl, hBl, _⟩ := hr.at_ hL2
  have HR := hid hr.cells
  have HB := hid (bl_then (bl_then hb1 hb2) hb3)
  clear hr hb1 hb2 hb3
  have hg1 := HG.out.1
  have hg2 := HG.out.2.1
  have HT : Hid (backS (s.extract a1 a2) = s.extract a1 a2) := (back_iff hg2).2 HG.out.2.2.1
  have HC : Hid (Lib.contains s.data.toList (s.extract a1 a2).data.toList = true) := by
    refine contains_at (s := lst s) (t := lst (s.extract a1 a2)) (p := a1) (by rw [lst_len]; omega) ?_
    rw [lst_mid]
    exact List.take_prefix _ _
  have htz : (s.extract a1 a2).size = a2 - a1 := by rw [size_ext]; omega
  have HX : ∀ W cp, (∀ k, k < L → W.cell? ⟨B, o + k, none⟩ = some (.int .i64 (ag s k))) → Calls Try.prog 21 #[.slice (some ⟨B, o, none⟩) L cp] W fun e w' => e = .returned (.int .i64 ((s.extract a1 a2).size : Int)) ∧ w' = W := by
    intro W cp hcs
    refine maxi_is B o L cp _ (fun k => Mm.arm (byt s) s.size k) W hcs hL2 (by unfold maxLen; omega) ⟨a1 + a2, by have := HL.out; omega, ?_⟩ fun k hk => ?_
    · rw [htz]; exact HG.out.arm_eq
    · rw [htz]; exact HG.out.arm_le (by have := HL.out; omega)
  have HU : Hid (backS (s.extract p q) = s.extract p q → (s.extract p q).size ≤ (s.extract a1 a2).size) := by
    intro e
    have := HG.out.2.2.2 p q hpq hqs ((back_iff hqs).1 e)
    rw [htz, size_ext]
    omega
  clear htz HG hg1 hg2
  have htm : (s.extract a1 a2).size ≤ maxLen := by unfold maxLen; rw [size_ext]; omega
  have hum : (s.extract p q).size ≤ maxLen := by unfold maxLen; rw [size_ext]; omega
  generalize s.extract a1 a2 = t at *
  go_wp2_with fail
  with_reducible refine (hW2 _).mono ?_
  rintro e w4 ⟨rfl, rfl⟩
  go_wp2_with fail
  with_reducible refine (hW3 _).mono ?_
  rintro e w4 ⟨rfl, rfl⟩
  clear hW2 hW3
  go_wp2_with fail
  with_reducible refine (back_any t _ htm).mono ?_
  rw [HT.out]
  rintro e w4 ⟨rfl, hb4⟩
  have HB4 := hid (bl_then HB.out hb4)
  have HR4 : Hid (∀ k, k < L → w4.cell? ⟨B, o + k, none⟩ = some (.int .i64 (ag s k))) := fun k hk => (hb4.cell (p := ⟨B, o + k, none⟩) hBl).trans (HR.out k hk)
  have hm4 : w4.cell? ⟨0, 0, none⟩ = some (.int .i64 m) := (HB4.out.cell (p := ⟨0, 0, none⟩) HW.out).trans HM.out
  clear HB HR hb4
  have htt : (t.toList == t.toList) = true := by simp
  go_wp2_with fail
  with_reducible refine (Try.strings_Contains s t m _ (by omega) hm4).mono ?_
  rw [HC.out]
  rintro e w5 ⟨rfl, rfl⟩
  clear hm4
  go_wp2_with fail
  with_reducible refine (HX _ _ HR4.out).mono ?_
  rintro e w6 ⟨rfl, rfl⟩
  clear HX HR4
  go_wp2_with fail
  with_reducible refine (back_any (s.extract p q) _ hum).mono ?_
  rintro e w6 ⟨rfl, hb6⟩
  have HB6 := hid (bl_then HB4.out hb6)
  clear HB4 hb6
  by_cases he : backS (s.extract p q) = s.extract p q
  · have hsz : q ≤ t.size + p := by
      have := HU.out he
      rw [size_ext] at this
      omega
    rw [he]
    have hnq : ((s.extract p q).toList != (s.extract p q).toList) = false := by simp
    go_wp2
    go_ret
    exact ⟨rfl, HB6.out⟩
  · have heq : ((backS (s.extract p q)).toList == (s.extract p q).toList) = false := beq_eq_false_iff_ne.2 fun e => he (str_eq'.2 (str_eq.1 e))
    have hnq : ((backS (s.extract p q)).toList != (s.extract p q).toList) = true := by rw [bne, heq]; rfl
    go_wp2
    go_ret
    exact ⟨rfl, HB6.out⟩
theorem mirrorLongest_walk (s : ByteArray) (i k : Int) (_ : s.size ≤ maxLen) (_ : (Lit.int .i64 i).wf = true) (_ : (Lit.int .i64 k).wf = true) (w : World) (hm : ∃ m, w.cell? ⟨0, 0, none⟩ = some (.int .i64 m)) (hw : 0 < w.heap.size) :
    Calls Try.prog 6 #[.string s, .int .i64 i, .int .i64 k] w fun e w' => e = .returned (.bool true) ∧ Below w.heap.size w w' := by
  by_cases hs : s.size ≤ 200
  · exact mirrorLongest_ok s i k w hs hm hw
  · exact mirrorLongest_large s i k w (by omega)
end Go.Proofs.Ytgeikpfbgdgciaa
