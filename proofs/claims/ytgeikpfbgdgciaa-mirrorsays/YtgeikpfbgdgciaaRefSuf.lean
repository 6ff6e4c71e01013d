/-
The contracts of package quillref's functions on ends: Alike, Ends, Factors, TwiceOf.
-/
import Derived.Test.YtgeikpfbgdgciaaSortW
import Derived.Laws.Cover1
namespace Go.Proofs.Ytgeikpfbgdgciaa
open Go.RowKit

/-- The ends from the left. -/
def endL (s : ByteArray) (i : Nat) : List (List UInt8) := (List.range i).map fun p => (lst s).drop p
theorem endL_succ (s : ByteArray) (i : Nat) : endL s (i + 1) = endL s i ++ [lst (s.extract i s.size)] := by unfold endL; rw [List.range_succ, List.map_append, lst_drop]; rfl
theorem endL_len (s : ByteArray) (i : Nat) : (endL s i).length = i := by unfold endL; simp
theorem srt_endL (s : ByteArray) : srt (endL s s.size) = (Sm.saL (lst s)).map fun p => (lst s).drop p := by
  have hsa := Sm.saL_sa (lst s)
  have hn : (endL s s.size).Pairwise (· ≠ ·) := by
    unfold endL
    rw [List.pairwise_map]
    refine List.Pairwise.imp_of_mem ?_ List.pairwise_lt_range
    intro a b ha hb hab e
    have h1 := List.mem_range.1 ha
    have h2 := List.mem_range.1 hb
    have := Sm.drop_inj (by rw [lst_len]; exact h1) (by rw [lst_len]; exact h2) e
    omega
  have hs : (srt (endL s s.size)).Pairwise (fun a b => a < b) := by
    refine ((srt_up _).and (((srt_perm _).pairwise_iff (fun h => Ne.symm h)).2 hn)).imp ?_
    rintro a b ⟨h1, h2⟩
    by_cases h : a < b
    · exact h
    · exact absurd (Sm.tri h h1) h2
  refine Sm.sorted_same (R := fun a b : List UInt8 => a < b) (fun _ _ h => Sm.as_ h) (fun _ => Lm.irr _) hs ?_ fun x => ?_
  · rw [List.pairwise_map]; exact hsa.2
  · rw [(srt_perm _).mem_iff]
    unfold endL
    rw [List.mem_map, List.mem_map]
    constructor
    · rintro ⟨p, hp, e⟩
      exact ⟨p, hsa.1.mem_iff.2 (by rw [lst_len]; exact hp), e⟩
    · rintro ⟨p, hp, e⟩
      have := hsa.1.mem_iff.1 hp
      rw [lst_len] at this
      exact ⟨p, this, e⟩
theorem srt_endL_get {s : ByteArray} {k : Nat} (h : k < s.size) : (srt (endL s s.size)).getD k [] = Sm.X (lst s) k := by
  have hk : k < (Sm.saL (lst s)).length := by rw [Sm.saL_len, lst_len]; exact h
  unfold Sm.X Sm.sa
  rw [srt_endL, List.getD_eq_getElem?_getD, List.getElem?_map, List.getElem?_eq_getElem hk, List.getD_eq_getElem?_getD, List.getElem?_eq_getElem hk]
  rfl
/-- The words that begin at p, the t shortest ones. -/
def facR (s : ByteArray) (p t : Nat) : List (List UInt8) := (List.range t).map fun u => ((lst s).drop p).take (u + 1)
theorem facR_succ (s : ByteArray) (p t : Nat) : facR s p (t + 1) = facR s p t ++ [lst (s.extract p (p + 1 + t))] := by
  unfold facR
  rw [List.range_succ, List.map_append, lst_mid, show p + 1 + t - p = t + 1 by omega]
  rfl
/-- All words that begin before i. -/
def facO (s : ByteArray) (i : Nat) : List (List UInt8) := (List.range i).flatMap fun p => facR s p (s.size - p)
theorem facO_succ (s : ByteArray) (i : Nat) : facO s (i + 1) = facO s i ++ facR s i (s.size - i) := by unfold facO; rw [List.range_succ, List.flatMap_append]; simp
theorem facR_len (s : ByteArray) (p t : Nat) : (facR s p t).length = t := by unfold facR; simp
theorem facO_len (s : ByteArray) : ∀ i, (facO s i).length ≤ i * s.size
  | 0 => by simp [facO]
  | i + 1 => by
    rw [facO_succ, List.length_append, facR_len, Nat.succ_mul]
    have := facO_len s i
    omega
theorem fac_bound {s : ByteArray} {i t : Nat} (hs : s.size ≤ 200) (hi : i ≤ s.size) (ht : t ≤ 200) : (facO s i ++ facR s i t).length < 1000000 := by
  rw [List.length_append, facR_len]
  have h1 := facO_len s i
  have h2 : i * s.size ≤ 200 * 200 := Nat.mul_le_mul (by omega) hs
  omega
theorem mem_facO (s : ByteArray) (x : List UInt8) : x ∈ Sm.dl (lst s) ↔ x ∈ facO s s.size := by
  rw [Sm.mem_dl, lst_len]
  unfold facO
  rw [List.mem_flatMap]
  constructor
  · rintro ⟨h1, p, hp, h2⟩
    have h0 := List.length_pos_iff.2 h1
    have hl := h2.length_le
    rw [List.length_drop, lst_len] at hl
    refine ⟨p, List.mem_range.2 hp, List.mem_map.2 ⟨x.length - 1, List.mem_range.2 (by omega), ?_⟩⟩
    rw [show x.length - 1 + 1 = x.length by omega]
    exact (List.prefix_iff_eq_take.1 h2).symm
  · rintro ⟨p, hp, hx⟩
    obtain ⟨u, hu, rfl⟩ := List.mem_map.1 hx
    have hp := List.mem_range.1 hp
    have hu := List.mem_range.1 hu
    refine ⟨fun e => ?_, p, hp, List.take_prefix _ _⟩
    have := congrArg List.length e
    rw [List.length_take, List.length_drop, lst_len, List.length_nil] at this
    omega
theorem fac_eq (s : ByteArray) : Lib.compact (srt (facO s s.size)) = Sm.dl (lst s) := compact_eq (Sm.dl_up _) (mem_facO s)
set_option maxHeartbeats 400000 in
theorem Factors_row (s : ByteArray) (w : World) (hs : s.size ≤ 200) :
    Calls Try.prog 25 #[.string s] w fun e w' => (∃ A c, e = .returned (.slice A (Sm.dl (lst s)).length c) ∧ LRow w' A (Sm.dl (lst s)).length (fun k => (Sm.dl (lst s)).getD k [])) ∧ Below w.heap.size w w' := by
  go_enter Try.func25, Try.ntmps25
  go_wp2
  go_loopw [3, 8] (fun v y wr => ∃ i : Nat, i ≤ s.size ∧ y = .int .i64 (i : Int) ∧ Hid (OwnL wr w.heap.size v (facO s i)) ∧ Below w.heap.size w wr) (fun _ y _ => s.size - (intOf y).toNat)
  case atStart => exact ⟨0, by omega, rfl, hid (OwnL.zero _ _), Below.refl _ _⟩
  case round =>
    obtain ⟨i, hi, rfl, HO, hbel⟩ := hrel
    have hsz := hbel.size
    by_cases hlt : i < s.size
    · have hlt' : (i : Int) < (s.size : Int) := by omega
      have e0 : facO s i = facO s i ++ facR s i (i + 1 - i - 1) := by rw [show i + 1 - i - 1 = 0 by omega]; unfold facR; simp
      rw [e0] at HO
      clear e0
      go_wp2
      go_loopw [3, 5] (fun v y w2 => ∃ k : Nat, i + 1 ≤ k ∧ k ≤ s.size + 1 ∧ y = .int .i64 (k : Int) ∧ Hid (OwnL w2 w.heap.size v (facO s i ++ facR s i (k - i - 1))) ∧ Below w.heap.size w w2) (fun _ y _ => s.size + 1 - (intOf y).toNat)
      case atStart => exact ⟨i + 1, by omega, by omega, by go_num, HO, hbel⟩
      case round =>
        clear HO hbel hsz
        obtain ⟨k, hk1, hk2, rfl, HO2, hbel2⟩ := hrel
        have hsz2 := hbel2.size
        by_cases hkn : k ≤ s.size
        · have hkn' : (k : Int) ≤ (s.size : Int) := by omega
          have hik' : (i : Int) ≤ (k : Int) := by omega
          have hln := fac_bound (s := s) (i := i) (t := k - i - 1) hs hi (by omega)
          go_wp2_with (at_builtin; with_reducible refine app_lst rfl _ _ rfl rfl HO2.out _ rfl rfl hsz2 hln ?_)
          intro v' w3 hown3 hb3
          have e1 : facO s i ++ (facR s i (k - i - 1) ++ [lst (s.extract i k)]) = facO s i ++ facR s i (k + 1 - i - 1) := by
            rw [show k + 1 - i - 1 = (k - i - 1) + 1 by omega, facR_succ, show i + 1 + (k - i - 1) = k by omega]
          rw [e1] at hown3
          have HO3 := hid hown3
          have hbel3 := hbel2.trans hb3
          clear hown3 hb3 HO2 e1
          go_wp2
          go_roundw
          case measure => simp [intOf]; omega
          case rel => exact ⟨k + 1, by omega, by omega, by go_num, HO3, hbel3⟩
        · obtain rfl : k = s.size + 1 := by omega
          have e2 : facO s i ++ facR s i (s.size + 1 - i - 1) = facO s (i + 1) := by rw [facO_succ, show s.size + 1 - i - 1 = s.size - i by omega]
          rw [e2] at HO2
          clear e2
          go_wp2
          go_roundw
          case measure => simp [intOf]; omega
          case rel => exact ⟨i + 1, by omega, by go_num, HO2, hbel2⟩
    · obtain rfl : i = s.size := by omega
      have hln : (facO s s.size).length < 1000000 := by
        have := fac_bound (s := s) (i := s.size) (t := 0) hs (by omega) (by omega)
        rw [List.length_append] at this
        omega
      go_wp2_with fail
      with_reducible refine (sort_lst _ w.heap.size _ _ HO.out hln hsz).mono ?_
      rintro e w2 ⟨rfl, hown, hb2⟩
      have HO2 := hid hown
      have hbel2 := hbel.trans hb2
      have hsz2 := hbel2.size
      clear hown hb2 HO hbel
      go_wp2_with fail
      with_reducible refine (compact_row _ w.heap.size _ _ HO2.out (by rw [srt_len]; exact hln) hsz2).mono ?_
      rw [fac_eq]
      rintro e w3 ⟨⟨A, c, rfl, hr3⟩, hb3⟩
      have HR := hid hr3
      have HB := hid (hbel2.trans hb3)
      clear hb3 HO2 hbel2 hr3
      go_wp2
      go_ret
      exact ⟨⟨A, c, rfl, HR.out⟩, HB.out⟩
theorem Factors_ok (s : ByteArray) (w : World) (hs : s.size ≤ 200) :
    Calls Try.prog 25 #[.string s] w fun e w' => (∃ A c, e = .returned (.slice A (Sm.dl (lst s)).length c)) ∧ Below w.heap.size w w' := by
  refine (Factors_row s w hs).mono ?_
  rintro e w1 ⟨⟨A, c, h1, _⟩, h2⟩
  exact ⟨⟨A, c, h1⟩, h2⟩
end Go.Proofs.Ytgeikpfbgdgciaa
