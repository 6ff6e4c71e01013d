/-
The walk of quillkeep.SeekEach: it returns true for all strings and numbers.
-/
import Derived.Test.YtdkdnhbdfcfkkaaSeeks
import Derived.Test.YtdkdnhbdfcfkkaaShelfP
import Derived.Deep.RegionHeld3
namespace Go.Proofs.Ytdkdnhbdfcfkkaa
open Go.RowKit

theorem pre_iff {s p : ByteArray} {a : Nat} (ha : a ≤ s.size) : Lib.hasPrefix (s.extract a s.size).data.toList p.data.toList = true ↔ Stands s p a := by
  unfold Lib.hasPrefix
  rw [List.isPrefixOf_iff_prefix, List.prefix_iff_getElem]
  have hl : (s.extract a s.size).data.toList.length = s.size - a := by rw [size_list, size_ext]; omega
  have hb : ∀ {x : ByteArray} {t : Nat} (h : t < x.data.toList.length), x.data.toList[t] = byt x t := by
    intro x t h
    unfold byt
    rw [List.getD_eq_getElem?_getD, List.getElem?_eq_getElem h]
    rfl
  constructor
  · rintro ⟨h, k⟩
    rw [hl, size_list] at h
    refine ⟨by omega, fun t ht => ?_⟩
    have := k t (by rw [size_list]; exact ht)
    rw [hb, hb, byt_ext (by omega)] at this
    exact this
  · intro h
    have h1 := h.1
    refine ⟨by rw [hl, size_list]; omega, fun t ht => ?_⟩
    rw [size_list] at ht
    rw [hb, hb, byt_ext (by omega)]
    exact h.2 t ht
/-- Where p stands twice, d apart, d is a period. -/
theorem stands_per {s p : ByteArray} {x d : Nat} (h : Stands s p x) (k : Stands s p (x + d)) (hd : d < p.size) : ((p.extract d p.size).toList == (p.extract 0 (p.size - d)).toList) = true := by
  apply beq_true
  rw [size_ext, size_ext]
  refine ⟨by omega, fun i hi => ?_⟩
  rw [byt_ext (by omega), byt_ext (by omega), Nat.zero_add, h.2 (d + i) (by omega), k.2 i (by omega)]
  congr 1; omega

theorem seekEach_err (s p : ByteArray) (n : Int) (w : World) (h : findErr s p ≠ 0) :
    Calls Try.prog 3 #[.string s, .string p, .int .i64 n] w fun e w' => e = .returned (.bool true) ∧ Below w.heap.size w w' := by
  have hx : (findErr s p != 0) = true := by simp [h]
  have HE := hid h
  clear h
  go_enter Try.func3, Try.ntmps3
  go_wp2_with fail
  with_reducible refine (seeks_any _).mono ?_
  rintro e w1 ⟨rfl, hb1⟩
  go_wp2_with fail
  with_reducible refine (Find_err s p _ HE.out).mono ?_
  rintro e w2 ⟨rfl, hb2⟩
  go_wp2
  go_ret
  exact ⟨rfl, bl_then hb1 hb2⟩

set_option maxHeartbeats 1000000 in
theorem seekEach_ok (s p : ByteArray) (n : Int) (w : World) (hs : s.size ≤ 200) (hp : p.size ≤ 200) (h0 : 0 < p.size) :
    Calls Try.prog 3 #[.string s, .string p, .int .i64 n] w fun e w' => e = .returned (.bool true) ∧ Below w.heap.size w w' := by
  have hr0 := Int.emod_nonneg n (show ((s.size + 1 : Nat) : Int) ≠ 0 by omega)
  have hr1 := Int.emod_lt_of_pos n (show (0 : Int) < ((s.size + 1 : Nat) : Int) by omega)
  obtain ⟨r, hr⟩ : ∃ r : Nat, r = (n % ((s.size + 1 : Nat) : Int)).toNat := ⟨_, rfl⟩
  have hrs : r ≤ s.size := by omega
  have hr' : (r : Int) ≤ (s.size : Int) := by omega
  have HR := hid hr
  have hlen := fiL_len (s := s) h0
  obtain ⟨m, hm⟩ : ∃ m, m = (fiL s p).length := ⟨_, rfl⟩
  obtain ⟨g, hg⟩ : ∃ g, g = fun k => (fiL s p).getD k 0 := ⟨_, rfl⟩
  have hget : ∀ k, k < m → ∃ x : Nat, g k = (x : Int) ∧ Stands s p x := by
    intro k hk; rw [hg]; exact fiL_get (by omega)
  have hfind : ∀ x, Stands s p x → ∃ k, k < m ∧ g k = (x : Int) := by
    intro x hx; rw [hg, hm]; exact fiL_find hx
  have hrise : ∀ k j, k < j → j < m → g k < g j := by
    intro k j h1 h2; rw [hg]; exact fiL_rise h1 (by omega)
  rw [← hm] at hlen
  have HM := hid hm
  have HG := hid hg
  have HGET := hid hget
  have HFIND := hid hfind
  have HRISE := hid hrise
  have hmm : m ≤ maxLen := by unfold maxLen; omega
  clear hr hr0 hr1 hm hg hget hfind hrise
  go_enter Try.func3, Try.ntmps3
  go_wp2_with fail
  with_reducible refine (seeks_any _).mono ?_
  rintro e w1 ⟨rfl, hb1⟩
  go_wp2_with fail
  with_reducible refine (Find_ok s p _ hs hp h0).mono ?_
  rw [← HM.out, ← HG.out]
  rintro e w2 ⟨A, c, rfl, hrow, hb2⟩
  have R := hid hrow
  have hb := hid (bl_then hb1 hb2)
  clear hrow hb1 hb2
  go_wp2_with fail
  rw [show (s.size : Int) + 1 = ((s.size + 1 : Nat) : Int) by omega]
  with_reducible refine (within_any n (s.size + 1) _ (by omega) (by omega)).mono ?_
  rw [← HR.out]
  rintro e w1' ⟨rfl, rfl⟩
  by_cases hst : Stands s p r
  · have hpre := (pre_iff hrs).2 hst
    have HST := hid (HFIND.out r hst)
    clear hst
    go_wp2_with fail
    go_region_held3 (fun _ => True) (trivial) (first | (go_at_call 10; (with_reducible refine (contains_yes R.out.drew hmm HST.out).mono ?_); rintro e w3 ⟨rfl, rfl⟩) | (go_at_call 11; (with_reducible refine (Try.strings_HasPrefix _ _ _).mono ?_); rw [hpre]; rintro e w3 ⟨rfl, rfl⟩))
    go_wp2
    go_loopw [9] (fun x wr => ∃ i : Nat, 1 ≤ i ∧ i ≤ max 1 m ∧ x = .int .i64 i ∧ ∃ d, wr = w2.drewN d) (fun x _ => max 1 m - (intOf x).toNat)
    case atStart => exact ⟨1, by omega, by omega, rfl, 1, rfl⟩
    case round =>
      obtain ⟨i, hi1, hi2, rfl, d, rfl⟩ := hrel
      by_cases hlt : i < m
      · obtain ⟨b, o, rfl, _, hci⟩ := R.out.at_ hlt
        obtain ⟨b', o', hbo, _, hcj⟩ := R.out.at_ (k := i - 1) (by omega)
        obtain ⟨rfl, rfl⟩ : b = b' ∧ o = o' := by injection hbo with hbo; injection hbo with h1 h2; exact ⟨h1, h2⟩
        obtain ⟨y, hy, hys⟩ := HGET.out i hlt
        obtain ⟨x, hx, hxs⟩ := HGET.out (i - 1) (by omega)
        have hxy := HRISE.out (i - 1) i (by omega) hlt
        rw [hx, hy] at hxy
        rw [hx] at hcj
        rw [hy] at hci
        obtain ⟨q, hq⟩ : ∃ q, y = x + q := ⟨y - x, by omega⟩
        have hyb := hys.1
        rw [hq] at hys
        have eq1 : (y : Int) - (x : Int) = (q : Int) := by omega
        have hq1 : 1 ≤ q := by omega
        have hlt' : (i : Int) < (m : Int) := by omega
        have hd1 : decide ((q : Int) < 1) = false := by simp; omega
        by_cases hqp : q < p.size
        · have hcmp := stands_per hxs hys hqp
          have hne : ((p.extract q p.size).toList != (p.extract 0 (p.size - q)).toList) = false := by simp [bne, hcmp]
          have hqp' : (q : Int) < (p.size : Int) := by omega
          have epq : (p.size : Int) - (q : Int) = ((p.size - q : Nat) : Int) := by omega
          have hwp : IntKind.i64.wrap ((p.size - q : Nat) : Int) = ((p.size - q : Nat) : Int) := IntWalk.i64_in _ (by omega)
          have hxr : x ≤ 200 := by omega
          clear hxs hys hx hy hxy hbo hq
          go_wp2
          go_quiet (fail)
          go_wp2
          go_quiet (fail)
          go_wp2
          go_roundw
          case rel => exact ⟨i + 1, by omega, by omega, by go_num, _, rfl⟩
          case measure => simp [intOf]; omega
        · have hd2 : decide ((q : Int) < (p.size : Int)) = false := by simp; omega
          have hxr : x ≤ 200 := by omega
          clear hxs hys hx hy hxy hbo hq
          go_wp2
          go_quiet (fail)
          go_wp2
          go_quiet (fail)
          go_wp2
          go_roundw
          case rel => exact ⟨i + 1, by omega, by omega, by go_num, _, rfl⟩
          case measure => simp [intOf]; omega
      · go_wp2
        go_ret
        exact ⟨rfl, bl_drewN hb.out _⟩
  · have hpre : Lib.hasPrefix (s.extract r s.size).data.toList p.data.toList = false := by
      cases hq : Lib.hasPrefix (s.extract r s.size).data.toList p.data.toList with
      | false => rfl
      | true => exact absurd ((pre_iff hrs).1 hq) hst
    have hno : ∀ k, k < m → g k ≠ (r : Int) := by
      intro k hk e
      obtain ⟨x, hx, hxs⟩ := HGET.out k hk
      rw [hx] at e
      obtain rfl : x = r := by omega
      exact hst hxs
    have HST := hid hno
    clear hst hno
    go_wp2_with fail
    go_region_held3 (fun _ => True) (trivial) (first | (go_at_call 10; (with_reducible refine (contains_no R.out.drew hmm HST.out).mono ?_); rintro e w3 ⟨rfl, rfl⟩) | (go_at_call 11; (with_reducible refine (Try.strings_HasPrefix _ _ _).mono ?_); rw [hpre]; rintro e w3 ⟨rfl, rfl⟩))
    go_wp2
    go_loopw [9] (fun x wr => ∃ i : Nat, 1 ≤ i ∧ i ≤ max 1 m ∧ x = .int .i64 i ∧ ∃ d, wr = w2.drewN d) (fun x _ => max 1 m - (intOf x).toNat)
    case atStart => exact ⟨1, by omega, by omega, rfl, 1, rfl⟩
    case round =>
      obtain ⟨i, hi1, hi2, rfl, d, rfl⟩ := hrel
      by_cases hlt : i < m
      · obtain ⟨b, o, rfl, _, hci⟩ := R.out.at_ hlt
        obtain ⟨b', o', hbo, _, hcj⟩ := R.out.at_ (k := i - 1) (by omega)
        obtain ⟨rfl, rfl⟩ : b = b' ∧ o = o' := by injection hbo with hbo; injection hbo with h1 h2; exact ⟨h1, h2⟩
        obtain ⟨y, hy, hys⟩ := HGET.out i hlt
        obtain ⟨x, hx, hxs⟩ := HGET.out (i - 1) (by omega)
        have hxy := HRISE.out (i - 1) i (by omega) hlt
        rw [hx, hy] at hxy
        rw [hx] at hcj
        rw [hy] at hci
        obtain ⟨q, hq⟩ : ∃ q, y = x + q := ⟨y - x, by omega⟩
        have hyb := hys.1
        rw [hq] at hys
        have eq1 : (y : Int) - (x : Int) = (q : Int) := by omega
        have hq1 : 1 ≤ q := by omega
        have hlt' : (i : Int) < (m : Int) := by omega
        have hd1 : decide ((q : Int) < 1) = false := by simp; omega
        by_cases hqp : q < p.size
        · have hcmp := stands_per hxs hys hqp
          have hne : ((p.extract q p.size).toList != (p.extract 0 (p.size - q)).toList) = false := by simp [bne, hcmp]
          have hqp' : (q : Int) < (p.size : Int) := by omega
          have epq : (p.size : Int) - (q : Int) = ((p.size - q : Nat) : Int) := by omega
          have hwp : IntKind.i64.wrap ((p.size - q : Nat) : Int) = ((p.size - q : Nat) : Int) := IntWalk.i64_in _ (by omega)
          have hxr : x ≤ 200 := by omega
          clear hxs hys hx hy hxy hbo hq
          go_wp2
          go_quiet (fail)
          go_wp2
          go_quiet (fail)
          go_wp2
          go_roundw
          case rel => exact ⟨i + 1, by omega, by omega, by go_num, _, rfl⟩
          case measure => simp [intOf]; omega
        · have hd2 : decide ((q : Int) < (p.size : Int)) = false := by simp; omega
          have hxr : x ≤ 200 := by omega
          clear hxs hys hx hy hxy hbo hq
          go_wp2
          go_quiet (fail)
          go_wp2
          go_quiet (fail)
          go_wp2
          go_roundw
          case rel => exact ⟨i + 1, by omega, by omega, by go_num, _, rfl⟩
          case measure => simp [intOf]; omega
      · go_wp2
        go_ret
        exact ⟨rfl, bl_drewN hb.out _⟩

theorem seekEach_walk (s p : ByteArray) (n : Int) (_ : s.size ≤ maxLen) (_ : p.size ≤ maxLen) (_ : (Lit.int .i64 n).wf = true) (w : World) :
    Calls Try.prog 3 #[.string s, .string p, .int .i64 n] w fun e w' => e = .returned (.bool true) ∧ Below w.heap.size w w' := by
  by_cases h : findErr s p = 0
  · obtain ⟨h1, h2, h3⟩ := findErr_ok h
    exact seekEach_ok s p n w h1 h2 h3
  · exact seekEach_err s p n w h
end Go.Proofs.Ytdkdnhbdfcfkkaa
