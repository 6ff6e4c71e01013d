/-
The contracts of package quillref's functions on ends: Alike, Ends, Factors, TwiceOf.
-/
import Derived.Test.YtcnfdmpggnhlgaaSortW
import Derived.Laws.Cover1
namespace Go.Proofs.Ytcnfdmpggnhlgaa
open Go.RowKit

theorem refAlike_lcp (u v : ByteArray) (w : World) (hu : u.size ≤ 1000) :
    Calls Try.prog 15 #[.string u, .string v] w fun e w' => e = .returned (.int .i64 (Sm.lcp (lst u) (lst v) : Nat)) ∧ Drew w w' := by
  obtain ⟨l, hl⟩ : ∃ l : Nat, min (u.size : Int) (v.size : Int) = (l : Int) := ⟨min u.size v.size, by omega⟩
  have hl2 : l = min u.size v.size := by omega
  have hl3 : (if v.size < u.size then (v.size : Int) else (u.size : Int)) = (l : Int) := by split <;> omega
  have HL2 := hid hl2
  clear hl2
  go_enter Try.func15, Try.ntmps15
  go_wp2
  go_loopw [5] (fun x wr => ∃ k : Nat, k ≤ l ∧ x = .int .i64 (k : Int) ∧ Hid (∀ t, t < k → byt u t = byt v t) ∧ Drew w wr) (fun x _ => l - (intOf x).toNat)
  case atStart => exact ⟨0, by omega, rfl, fun t ht => by omega, Drew.refl _⟩
  case round =>
    obtain ⟨k, hkl, rfl, hall, dd, rfl⟩ := hrel
    have fin : (k = l ∨ byt u k ≠ byt v k) → Hid (k = Sm.lcp (lst u) (lst v)) := by
      intro h
      have := HL2.out
      refine (Sm.lcp_is (x := lst u) (y := lst v) (n := k) (by rw [lst_len]; omega) (by rw [lst_len]; omega) hall.out ?_).symm
      rw [lst_len, lst_len, lst_get, lst_get]
      rcases h with h | h
      · omega
      · exact .inr (.inr h)
    have hlt1 : k < l → k < u.size ∧ k < v.size := fun h => by have := HL2.out; omega
    by_cases h1 : k < l
    · obtain ⟨h2, h3⟩ := hlt1 h1
      have h1' : (k : Int) < (l : Int) := by omega
      have h2' : (k : Int) < (u.size : Int) := by omega
      have h3' : (k : Int) < (v.size : Int) := by omega
      clear hlt1
      by_cases he : byt u k = byt v k
      · have heq : ((u[k].toNat : Int) == (v[k].toNat : Int)) = true := by rw [← byt_eq h2, ← byt_eq h3, he]; simp
        have HA : Hid (∀ t, t < k + 1 → byt u t = byt v t) := by
          intro t ht
          by_cases e : t = k
          · subst e; exact he
          · exact hall.out t (by omega)
        clear he fin
        go_wp2
        go_quiet (fail)
        go_wp2
        go_roundw
        case rel => exact ⟨k + 1, by omega, by go_num, HA, Drew.is_ w _⟩
        case measure => simp [intOf]; omega
      · have heq : ((u[k].toNat : Int) == (v[k].toNat : Int)) = false := by rw [← byt_eq h2, ← byt_eq h3]; exact (byte_ne he).2
        have HF := fin (.inr he)
        clear he fin
        go_wp2
        go_quiet (fail)
        go_wp2
        go_ret
        exact ⟨ret_int (congrArg Int.ofNat HF.out), (Drew.is_ w _).more _⟩
    · have HF := fin (.inl (by omega))
      have h2d : decide ((k : Int) < (l : Int)) = false := decide_eq_false (by omega)
      have h2e : decide (k < l) = false := decide_eq_false (by omega)
      clear fin hlt1
      go_wp2
      go_quiet (fail)
      go_wp2
      go_ret
      exact ⟨ret_int (congrArg Int.ofNat HF.out), (Drew.is_ w _).more _⟩
/-- The ends from the left. -/
def endL (s : ByteArray) (i : Nat) : List (List UInt8) := (List.range i).map fun p => (lst s).drop p
theorem endL_succ (s : ByteArray) (i : Nat) : endL s (i + 1) = endL s i ++ [lst (s.extract i s.size)] := by unfold endL; rw [List.range_succ, List.map_append, lst_drop]; rfl
theorem endL_len (s : ByteArray) (i : Nat) : (endL s i).length = i := by unfold endL; simp
theorem srt_endL (s : ByteArray) : srt (endL s s.size) = (Sm.saL (lst s)).map fun p => (lst s).drop p := by
  have hsa := Sm.saL_sa (lst s)
  have hn : (endL s s.size).Pairwise (· ≠ ·) := by
    unfold endL
    rw [List.pairwise_map]
    refine List.Pairwise.imp_of_mem ?_ List.pairwise_lt_range
    intro a b ha hb hab e
    have h1 := List.mem_range.1 ha
    have h2 := List.mem_range.1 hb
    have := Sm.drop_inj (by rw [lst_len]; exact h1) (by rw [lst_len]; exact h2) e
    omega
  have hs : (srt (endL s s.size)).Pairwise (fun a b => a < b) := by
    refine ((srt_up _).and (((srt_perm _).pairwise_iff (fun h => Ne.symm h)).2 hn)).imp ?_
    rintro a b ⟨h1, h2⟩
    by_cases h : a < b
    · exact h
    · exact absurd (Sm.tri h h1) h2
  refine Sm.sorted_same (R := fun a b : List UInt8 => a < b) (fun _ _ h => Sm.as_ h) (fun _ => Lm.irr _) hs ?_ fun x => ?_
  · rw [List.pairwise_map]; exact hsa.2
  · rw [(srt_perm _).mem_iff]
    unfold endL
    rw [List.mem_map, List.mem_map]
    constructor
    · rintro ⟨p, hp, e⟩
      exact ⟨p, hsa.1.mem_iff.2 (by rw [lst_len]; exact hp), e⟩
    · rintro ⟨p, hp, e⟩
      have := hsa.1.mem_iff.1 hp
      rw [lst_len] at this
      exact ⟨p, this, e⟩
theorem srt_endL_get {s : ByteArray} {k : Nat} (h : k < s.size) : (srt (endL s s.size)).getD k [] = Sm.X (lst s) k := by
  have hk : k < (Sm.saL (lst s)).length := by rw [Sm.saL_len, lst_len]; exact h
  unfold Sm.X Sm.sa
  rw [srt_endL, List.getD_eq_getElem?_getD, List.getElem?_map, List.getElem?_eq_getElem hk, List.getD_eq_getElem?_getD, List.getElem?_eq_getElem hk]
  rfl
set_option maxHeartbeats 400000 in
theorem Ends_ok (s : ByteArray) (w : World) (hs : s.size ≤ 200) :
    Calls Try.prog 14 #[.string s] w fun e w' => (∃ A c, e = .returned (.slice A s.size c) ∧ LRow w' A s.size (Sm.X (lst s))) ∧ Below w.heap.size w w' := by
  go_enter Try.func14, Try.ntmps14
  go_wp2
  go_loopw [3, 7] (fun v y wr => ∃ i : Nat, i ≤ s.size ∧ y = .int .i64 (i : Int) ∧ Hid (OwnL wr w.heap.size v (endL s i)) ∧ Below w.heap.size w wr) (fun _ y _ => s.size - (intOf y).toNat)
  case atStart => exact ⟨0, by omega, rfl, hid (OwnL.zero _ _), Below.refl _ _⟩
  case round =>
    obtain ⟨i, hi, rfl, HO, hbel⟩ := hrel
    have hsz := hbel.size
    by_cases hlt : i < s.size
    · have hlt' : (i : Int) < (s.size : Int) := by omega
      have hle' : (i : Int) ≤ (s.size : Int) := by omega
      have hln : (endL s i).length < 1000000 := by rw [endL_len]; omega
      go_wp2_with (at_builtin; with_reducible refine app_lst rfl _ _ rfl rfl HO.out _ rfl rfl hsz hln ?_)
      intro v' w3 hown3 hb3
      rw [← endL_succ] at hown3
      have HO3 := hid hown3
      have hbel3 := hbel.trans hb3
      clear hown3 hb3 HO
      go_wp2
      go_roundw
      case measure => simp [intOf]; omega
      case rel => exact ⟨i + 1, by omega, by go_num, HO3, hbel3⟩
    · obtain rfl : i = s.size := by omega
      go_wp2_with fail
      with_reducible refine (sort_lst _ w.heap.size _ _ HO.out (by rw [endL_len]; omega) hsz).mono ?_
      rintro e w2 ⟨rfl, hown, hb2⟩
      obtain ⟨A, c, rfl, hrow⟩ := hown.row
      rw [srt_len, endL_len] at hrow ⊢
      have HR := hid hrow
      have HB := hid (hbel.trans hb2)
      clear hown hrow hb2 HO hbel
      go_wp2
      go_ret
      refine ⟨⟨A, c, rfl, fun k hk => ?_⟩, HB.out⟩
      obtain ⟨b, o, h1, h2, h3⟩ := HR.out k hk
      exact ⟨b, o, h1, h2, by rw [h3]; show some (Value.string (mkS ((srt (endL s s.size)).getD k []))) = _; rw [srt_endL_get hk]⟩
/-- The words that begin at p, the t shortest ones. -/
def facR (s : ByteArray) (p t : Nat) : List (List UInt8) := (List.range t).map fun u => ((lst s).drop p).take (u + 1)
theorem facR_succ (s : ByteArray) (p t : Nat) : facR s p (t + 1) = facR s p t ++ [lst (s.extract p (p + 1 + t))] := by
  unfold facR
  rw [List.range_succ, List.map_append, lst_mid, show p + 1 + t - p = t + 1 by omega]
  rfl
/-- All words that begin before i. -/
def facO (s : ByteArray) (i : Nat) : List (List UInt8) := (List.range i).flatMap fun p => facR s p (s.size - p)
theorem facO_succ (s : ByteArray) (i : Nat) : facO s (i + 1) = facO s i ++ facR s i (s.size - i) := by unfold facO; rw [List.range_succ, List.flatMap_append]; simp
theorem facR_len (s : ByteArray) (p t : Nat) : (facR s p t).length = t := by unfold facR; simp
theorem facO_len (s : ByteArray) : ∀ i, (facO s i).length ≤ i * s.size
  | 0 => by simp [facO]
  | i + 1 => by
    rw [facO_succ, List.length_append, facR_len, Nat.succ_mul]
    have := facO_len s i
    omega
theorem fac_bound {s : ByteArray} {i t : Nat} (hs : s.size ≤ 200) (hi : i ≤ s.size) (ht : t ≤ 200) : (facO s i ++ facR s i t).length < 1000000 := by
  rw [List.length_append, facR_len]
  have h1 := facO_len s i
  have h2 : i * s.size ≤ 200 * 200 := Nat.mul_le_mul (by omega) hs
  omega
theorem mem_facO (s : ByteArray) (x : List UInt8) : x ∈ Sm.dl (lst s) ↔ x ∈ facO s s.size := by
  rw [Sm.mem_dl, lst_len]
  unfold facO
  rw [List.mem_flatMap]
  constructor
  · rintro ⟨h1, p, hp, h2⟩
    have h0 := List.length_pos_iff.2 h1
    have hl := h2.length_le
    rw [List.length_drop, lst_len] at hl
    refine ⟨p, List.mem_range.2 hp, List.mem_map.2 ⟨x.length - 1, List.mem_range.2 (by omega), ?_⟩⟩
    rw [show x.length - 1 + 1 = x.length by omega]
    exact (List.prefix_iff_eq_take.1 h2).symm
  · rintro ⟨p, hp, hx⟩
    obtain ⟨u, hu, rfl⟩ := List.mem_map.1 hx
    have hp := List.mem_range.1 hp
    have hu := List.mem_range.1 hu
    refine ⟨fun e => ?_, p, hp, List.take_prefix _ _⟩
    have := congrArg List.length e
    rw [List.length_take, List.length_drop, lst_len, List.length_nil] at this
    omega
theorem fac_count (s : ByteArray) : (Lib.compact (srt (facO s s.size))).length = (Sm.dl (lst s)).length := compact_count (Sm.dl_up _) (mem_facO s)
set_option maxHeartbeats 400000 in
theorem Factors_ok (s : ByteArray) (w : World) (hs : s.size ≤ 200) :
    Calls Try.prog 16 #[.string s] w fun e w' => (∃ A c, e = .returned (.slice A (Sm.dl (lst s)).length c)) ∧ Below w.heap.size w w' := by
  go_enter Try.func16, Try.ntmps16
  go_wp2
  go_loopw [3, 8] (fun v y wr => ∃ i : Nat, i ≤ s.size ∧ y = .int .i64 (i : Int) ∧ Hid (OwnL wr w.heap.size v (facO s i)) ∧ Below w.heap.size w wr) (fun _ y _ => s.size - (intOf y).toNat)
  case atStart => exact ⟨0, by omega, rfl, hid (OwnL.zero _ _), Below.refl _ _⟩
  case round =>
    obtain ⟨i, hi, rfl, HO, hbel⟩ := hrel
    have hsz := hbel.size
    by_cases hlt : i < s.size
    · have hlt' : (i : Int) < (s.size : Int) := by omega
      have e0 : facO s i = facO s i ++ facR s i (i + 1 - i - 1) := by rw [show i + 1 - i - 1 = 0 by omega]; unfold facR; simp
      rw [e0] at HO
      clear e0
      go_wp2
      go_loopw [3, 5] (fun v y w2 => ∃ k : Nat, i + 1 ≤ k ∧ k ≤ s.size + 1 ∧ y = .int .i64 (k : Int) ∧ Hid (OwnL w2 w.heap.size v (facO s i ++ facR s i (k - i - 1))) ∧ Below w.heap.size w w2) (fun _ y _ => s.size + 1 - (intOf y).toNat)
      case atStart => exact ⟨i + 1, by omega, by omega, by go_num, HO, hbel⟩
      case round =>
        clear HO hbel hsz
        obtain ⟨k, hk1, hk2, rfl, HO2, hbel2⟩ := hrel
        have hsz2 := hbel2.size
        by_cases hkn : k ≤ s.size
        · have hkn' : (k : Int) ≤ (s.size : Int) := by omega
          have hik' : (i : Int) ≤ (k : Int) := by omega
          have hln := fac_bound (s := s) (i := i) (t := k - i - 1) hs hi (by omega)
          go_wp2_with (at_builtin; with_reducible refine app_lst rfl _ _ rfl rfl HO2.out _ rfl rfl hsz2 hln ?_)
          intro v' w3 hown3 hb3
          have e1 : facO s i ++ (facR s i (k - i - 1) ++ [lst (s.extract i k)]) = facO s i ++ facR s i (k + 1 - i - 1) := by
            rw [show k + 1 - i - 1 = (k - i - 1) + 1 by omega, facR_succ, show i + 1 + (k - i - 1) = k by omega]
          rw [e1] at hown3
          have HO3 := hid hown3
          have hbel3 := hbel2.trans hb3
          clear hown3 hb3 HO2 e1
          go_wp2
          go_roundw
          case measure => simp [intOf]; omega
          case rel => exact ⟨k + 1, by omega, by omega, by go_num, HO3, hbel3⟩
        · obtain rfl : k = s.size + 1 := by omega
          have e2 : facO s i ++ facR s i (s.size + 1 - i - 1) = facO s (i + 1) := by rw [facO_succ, show s.size + 1 - i - 1 = s.size - i by omega]
          rw [e2] at HO2
          clear e2
          go_wp2
          go_roundw
          case measure => simp [intOf]; omega
          case rel => exact ⟨i + 1, by omega, by go_num, HO2, hbel2⟩
    · obtain rfl : i = s.size := by omega
      have hln : (facO s s.size).length < 1000000 := by
        have := fac_bound (s := s) (i := s.size) (t := 0) hs (by omega) (by omega)
        rw [List.length_append] at this
        omega
      go_wp2_with fail
      with_reducible refine (sort_lst _ w.heap.size _ _ HO.out hln hsz).mono ?_
      rintro e w2 ⟨rfl, hown, hb2⟩
      have HO2 := hid hown
      have hbel2 := hbel.trans hb2
      have hsz2 := hbel2.size
      clear hown hb2 HO hbel
      go_wp2_with fail
      with_reducible refine (compact_lst _ w.heap.size _ _ HO2.out (by rw [srt_len]; exact hln) hsz2).mono ?_
      rintro e w3 ⟨⟨A, c, rfl⟩, hb3⟩
      rw [fac_count]
      have HB := hid (hbel2.trans hb3)
      clear hb3 HO2 hbel2
      go_wp2
      go_ret
      exact ⟨⟨A, c, rfl⟩, HB.out⟩
theorem srt_ordered (s : ByteArray) (m : Nat) : Sm.Ordered (lst s) m (srt (Sm.subL (lst s) m (s.size + 1 - m))) := by
  refine ⟨?_, srt_up _⟩
  rw [lst_len]
  exact srt_perm _
theorem twiceOf_zero (s : ByteArray) (w : World) (hz : s.size = 0) : Calls Try.prog 17 #[.string s] w fun e w' => (∃ t : ByteArray, e = .returned (.string t) ∧ Sm.IsTw (lst s) (lst t)) ∧ Below w.heap.size w w' := by
  have HE : Hid (Sm.IsTw (lst s) (lst ⟨#[]⟩)) := Sm.no_rep fun y hy => by have := Sm.rep_short hy; rw [lst_len] at this; omega
  have hz0 : (s.size : Int) - 1 = -1 := by omega
  have hz1 : decide ((0 : Int) < (s.size : Int) - 1) = false := decide_eq_false (by omega)
  clear hz
  go_enter Try.func17, Try.ntmps17
  go_wp2
  go_loopw [3] (fun x wr => x = .int .i64 (-1) ∧ wr = w) (fun _ _ => 0)
  case atStart => exact ⟨rfl, rfl⟩
  case round =>
    obtain ⟨rfl, rfl⟩ := hrel
    go_wp2
    go_ret
    exact ⟨⟨_, rfl, HE.out⟩, Below.refl _ _⟩
set_option maxHeartbeats 1000000 in
theorem twiceOf_some (s : ByteArray) (w : World) (hs : s.size ≤ 200) (h0 : 0 < s.size) : Calls Try.prog 17 #[.string s] w fun e w' => (∃ t : ByteArray, e = .returned (.string t) ∧ Sm.IsTw (lst s) (lst t)) ∧ Below w.heap.size w w' := by
  go_enter Try.func17, Try.ntmps17
  go_wp2
  go_loopw [3] (fun x wr => ∃ m : Nat, m < s.size ∧ x = .int .i64 (m : Int) ∧ Hid (∀ y, Sm.Rep (lst s) y → y.length ≤ m) ∧ Below w.heap.size w wr) (fun x _ => (intOf x).toNat)
  case atStart => exact ⟨s.size - 1, by omega, by go_num, hid (fun y hy => by have := Sm.rep_short hy; rwa [lst_len] at this), Below.refl _ _⟩
  case round =>
    obtain ⟨m, hm, rfl, HR, hbel⟩ := hrel
    by_cases hm0 : 0 < m
    · have hm0' : (0 : Int) < (m : Int) := by omega
      have HR1 := HR
      clear HR
      go_wp2
      go_loopw [4, 5] (fun v y w2 => ∃ i : Nat, i ≤ s.size + 1 - m ∧ y = .int .i64 (i : Int) ∧ Hid (OwnL w2 w.heap.size v (Sm.subL (lst s) m i)) ∧ Below w.heap.size w w2) (fun _ y _ => s.size + 1 - (intOf y).toNat)
      case atStart => exact ⟨0, by omega, rfl, hid (OwnL.zero _ _), hbel⟩
      case round =>
        clear hbel
        obtain ⟨i, hi, rfl, HO, hbel⟩ := hrel
        have hsz := hbel.size
        have hln : (Sm.subL (lst s) m i).length < 1000000 := by rw [Sm.subL_len]; omega
        obtain ⟨j, hj⟩ : ∃ j, j = i + m := ⟨_, rfl⟩
        have ej : (i : Int) + (m : Int) = (j : Int) := by omega
        have ej0 : (0 : Int) ≤ (j : Int) := by omega
        have ej1 : (i : Int) ≤ (j : Int) := by omega
        have ejw : IntKind.i64.wrap (j : Int) = (j : Int) := IntWalk.i64_in _ (by omega)
        by_cases hle : j ≤ s.size
        · have hle' : (j : Int) ≤ (s.size : Int) := by omega
          have e1 : Sm.subL (lst s) m i ++ [lst (s.extract i j)] = Sm.subL (lst s) m (i + 1) := by
            rw [Sm.subL_succ, lst_mid, hj, Nat.add_sub_cancel_left]
          have hi2 : i + 1 ≤ s.size + 1 - m := by omega
          have E1 := hid e1
          clear e1 hj
          go_wp2_with (at_builtin; with_reducible refine app_lst rfl _ _ rfl rfl HO.out _ rfl rfl hsz hln ?_)
          intro v' w3 hown3 hb3
          rw [E1.out] at hown3
          have HO3 := hid hown3
          have hbel3 := hbel.trans hb3
          clear hown3 hb3 HO
          go_wp2
          go_roundw
          case measure => simp [intOf]; omega
          case rel => exact ⟨i + 1, hi2, by go_num, HO3, hbel3⟩
        · have hle' : decide ((j : Int) ≤ (s.size : Int)) = false := decide_eq_false (by omega)
          have hle2 : decide (j ≤ s.size) = false := decide_eq_false (by omega)
          obtain rfl : i = s.size + 1 - m := by omega
          clear hj
          go_wp2_with fail
          with_reducible refine (sort_lst _ w.heap.size _ _ HO.out hln hsz).mono ?_
          rintro e w2 ⟨rfl, hown, hb2⟩
          obtain ⟨A, c, rfl, hrow⟩ := hown.row
          have hord := srt_ordered s m
          have hml : (srt (Sm.subL (lst s) m (s.size + 1 - m))).length = s.size + 1 - m := by rw [srt_len, Sm.subL_len]
          obtain ⟨M, hM⟩ : ∃ M, M = srt (Sm.subL (lst s) m (s.size + 1 - m)) := ⟨_, rfl⟩
          rw [← hM] at hord hml hrow ⊢
          obtain ⟨N, hN⟩ : ∃ N, N = M.length := ⟨_, rfl⟩
          rw [← hN] at hml hrow ⊢
          have HM := hid hord
          have HN := hid hN
          have HROW := hid hrow
          have HB := hid (hbel.trans hb2)
          have hNs : N ≤ 200 := by omega
          clear hown hrow hord hM hN hb2 hbel HO hln hml
          go_wp2
          go_loopw [6] (fun y w3 => ∃ i : Nat, 1 ≤ i ∧ i ≤ N + 1 ∧ y = .int .i64 (i : Int) ∧ Hid (∀ k, 0 < k → k < i → M.getD k [] ≠ M.getD (k - 1) []) ∧ Drew w2 w3) (fun y _ => N + 1 - (intOf y).toNat)
          case atStart => exact ⟨1, by omega, by omega, rfl, hid (fun k h1 h2 => by omega), Drew.refl _⟩
          case round =>
            clear ej ej0 ej1 ejw hle hle' hle2
            obtain ⟨i, hi1, hi2, rfl, HD, dd, rfl⟩ := hrel
            by_cases hlt : i < N
            · have hlt' : (i : Int) < (N : Int) := by omega
              obtain ⟨b, o, hA, _, hc1⟩ := HROW.out i hlt
              obtain ⟨b', o', hA', _, hc2⟩ := HROW.out (i - 1) (by omega)
              subst hA
              obtain ⟨rfl, rfl⟩ : b' = b ∧ o' = o := by injection hA' with e; injection e with e1 e2; exact ⟨e1.symm, e2.symm⟩
              obtain ⟨x, hx⟩ : ∃ x, x = i - 1 := ⟨_, rfl⟩
              have ex : (i : Int) - 1 = (x : Int) := by omega
              have ex0 : (0 : Int) ≤ (x : Int) := by omega
              have ex1 : (x : Int) < (N : Int) := by omega
              have exw : IntKind.i64.wrap (x : Int) = (x : Int) := IntWalk.i64_in _ (by omega)
              rw [← hx] at hc2
              replace hc1 : w2.cell? ⟨b', o' + i, none⟩ = some (.string (mkS (M.getD i []))) := hc1
              replace hc2 : w2.cell? ⟨b', o' + x, none⟩ = some (.string (mkS (M.getD x []))) := hc2
              have HX := hid hx
              clear hx hA'
              by_cases he : M.getD i [] = M.getD x []
              · have HE : Hid (Sm.IsTw (lst s) (lst (mkS (M.getD i [])))) := by
                  rw [lst_mk]
                  exact HM.out.found (by rw [lst_len]; omega) (by omega) (by rw [← HN.out]; exact hlt) (by rw [← HX.out]; exact he) HD.out HR1.out
                have hz : (mkS (M.getD i [])).size ≤ 200 := by
                  rw [mk_size, HM.out.len (m := m) (by rw [lst_len]; omega) (by rw [List.getD_eq_getElem?_getD, List.getElem?_eq_getElem (by rw [← HN.out]; exact hlt)]; exact List.getElem_mem _)]
                  omega
                have heq : ((mkS (M.getD i [])).toList == (mkS (M.getD x [])).toList) = true := by rw [he]; simp
                rw [he] at hc1 HE hz heq
                generalize mkS (M.getD x []) = u at hc1 hc2 HE heq hz
                clear he
                go_wp2
                go_quiet (fail)
                go_wp2
                go_ret
                exact ⟨⟨u, rfl, HE.out⟩, bl_drewN HB.out _⟩
              · have HD2 : Hid (∀ k, 0 < k → k < i + 1 → M.getD k [] ≠ M.getD (k - 1) []) := by
                  intro k h1 h2
                  by_cases e : k = i
                  · subst e; rw [← HX.out]; exact he
                  · exact HD.out k h1 (by omega)
                have heq : ((mkS (M.getD i [])).toList == (mkS (M.getD x [])).toList) = false := by
                  rw [beq_eq_false_iff_ne]
                  intro e
                  rw [ByteArray.toList_eq, ByteArray.toList_eq] at e
                  apply he
                  rw [← lst_mk (M.getD i []), ← lst_mk (M.getD x [])]
                  exact e
                generalize mkS (M.getD x []) = u at hc2 heq
                generalize mkS (M.getD i []) = v at hc1 heq
                clear he
                go_wp2
                go_quiet (fail)
                go_wp2
                go_roundw
                case measure => simp [intOf]; omega
                case rel => exact ⟨i + 1, by omega, by omega, by go_num, HD2, Drew.is_ _ _⟩
            · have hlt' : decide ((i : Int) < (N : Int)) = false := decide_eq_false (by omega)
              have HR2 : Hid (∀ y, Sm.Rep (lst s) y → y.length ≤ m - 1) := by
                intro y hy
                have h1 := HR1.out y hy
                have h2 := HM.out.none_ (by rw [lst_len]; omega) (fun k h3 h4 => HD.out k h3 (by rw [← HN.out] at h4; omega)) y hy
                omega
              go_wp2
              go_roundw
              case measure => simp [intOf]; omega
              case rel => exact ⟨m - 1, by omega, by go_num, HR2, bl_drewN HB.out _⟩
    · obtain rfl : m = 0 := by omega
      have HE : Hid (Sm.IsTw (lst s) (lst ⟨#[]⟩)) := Sm.no_rep HR.out
      clear HR
      go_wp2
      go_ret
      exact ⟨⟨_, rfl, HE.out⟩, hbel⟩
theorem TwiceOf_ok (s : ByteArray) (w : World) (hs : s.size ≤ 200) : Calls Try.prog 17 #[.string s] w fun e w' => (∃ t : ByteArray, e = .returned (.string t) ∧ Sm.IsTw (lst s) (lst t)) ∧ Below w.heap.size w w' := by
  rcases Nat.eq_zero_or_pos s.size with h | h
  · exact twiceOf_zero s w h
  · exact twiceOf_some s w hs h
end Go.Proofs.Ytcnfdmpggnhlgaa
