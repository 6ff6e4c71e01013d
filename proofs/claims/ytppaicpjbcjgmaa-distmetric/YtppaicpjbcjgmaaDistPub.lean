
/-
The contracts of package dist: Of, Near, Swaps.
-/
import Derived.Test.YtppaicpjbcjgmaaDist
import Derived.Test.YtppaicpjbcjgmaaSRows
import Derived.Test.YtppaicpjbcjgmaaSamePub
import Derived.Deep.RegionHeld3
namespace Go.Proofs.Ytppaicpjbcjgmaa
open Go.RowKit

theorem Of_ok (a b : ByteArray) (w : World) (ha : a.size ≤ 200) (hb : b.size ≤ 200) :
    Calls Try.prog 10 #[.string a, .string b] w fun e w' => e = .returned (.tuple #[.int .i64 (Lev.lv (lst a) (lst b) : Nat), .int .i64 0]) ∧ Below w.heap.size w w' := by
  go_enter Try.func10, Try.ntmps10
  go_wp2_with fail
  with_reducible refine (sameCheck_ok a b _ ha hb).mono ?_
  rintro e w1 ⟨rfl, rfl⟩
  go_wp2_with fail
  with_reducible refine (distance_ok a b _ ha hb).mono ?_
  rintro e w1 ⟨rfl, hb1⟩
  go_wp2
  go_ret2
  exact ⟨rfl, hb1⟩
theorem Of_large (a b : ByteArray) (w : World) (h : 200 < a.size ∨ 200 < b.size) :
    Calls Try.prog 10 #[.string a, .string b] w fun e w' => e = .returned (.tuple #[.int .i64 0, .int .i64 2]) ∧ w = w' := by
  go_enter Try.func10, Try.ntmps10
  go_wp2_with fail
  with_reducible refine (sameCheck_large a b _ h).mono ?_
  rintro e w1 ⟨rfl, rfl⟩
  go_wp2
  go_ret2
  exact ⟨rfl, rfl⟩

set_option maxHeartbeats 1000000 in
theorem Swaps_ok (a b : ByteArray) (w : World) (ha : a.size ≤ 200) (h : a.size = b.size) :
    Calls Try.prog 12 #[.string a, .string b] w fun e w' => e = .returned (.tuple #[.int .i64 (Lev.hm (lst a) (lst b) : Nat), .int .i64 0]) ∧ Drew w w' := by
  have HLA := hid (lst_len a)
  have HLB := hid (lst_len b)
  have hne : ((a.size : Int) != (b.size : Int)) = false := by rw [h]; simp
  have heq : ((a.size : Int) == (b.size : Int)) = true := by rw [h]; simp
  have HS := hid h
  have hb : b.size ≤ 200 := by omega
  clear h
  go_enter Try.func12, Try.ntmps12
  go_wp2_with fail
  with_reducible refine (sameCheck_ok a b _ ha hb).mono ?_
  rintro e w1 ⟨rfl, rfl⟩
  go_wp2
  clear hne heq
  go_loopw [7, 22] (fun v x wr => ∃ i : Nat, i ≤ a.size ∧ x = .int .i64 (i : Int) ∧ v = .int .i64 (Lev.hf (lst a) (lst b) i : Nat) ∧ Hid (Drew w wr)) (fun _ x _ => a.size - (intOf x).toNat)
  case atStart => exact ⟨0, by omega, rfl, rfl, Drew.refl _⟩
  case round =>
    obtain ⟨i, hi, rfl, rfl, HD⟩ := hrel
    by_cases hia : i < a.size
    · have hia' : (i : Int) < (a.size : Int) := by omega
      have hib : i < b.size := by have := HS.out; omega
      have hib' : (i : Int) < (b.size : Int) := by omega
      obtain ⟨t, ht⟩ : ∃ t, t = Lev.hf (lst a) (lst b) i := ⟨_, rfl⟩
      have ht5 : t ≤ 400 := by rw [ht]; have := Lev.hf_le (lst a) (lst b) i; omega
      have hst := Lev.hf_step (a := lst a) (b := lst b) (i := i) (by rw [HLA.out]; exact hia) (by rw [HLB.out]; exact hib)
      rw [← ht] at hst
      rw [← ht]
      by_cases he : byt a i = byt b i
      · have heq : ((a[i].toNat : Int) == (b[i].toNat : Int)) = true := by rw [← byt_eq hia, ← byt_eq hib, he]; simp
        have heq2 : ((a[i].toNat : Int) != (b[i].toNat : Int)) = false := by rw [← byt_eq hia, ← byt_eq hib, he]; simp
        rw [if_pos (show (lst a).getD i 0 = (lst b).getD i 0 from he)] at hst
        have HST := hid hst
        clear he ht hst
        go_wp2
        go_quiet (fail)
        go_wp2
        go_roundw
        case rel => exact ⟨i + 1, by omega, by go_num, by rw [HST.out]; rfl, HD.out.more _⟩
        case measure => simp [intOf]; omega
      · have heq : ((a[i].toNat : Int) == (b[i].toNat : Int)) = false := by rw [← byt_eq hia, ← byt_eq hib]; exact (byte_ne he).2
        have heq2 : ((a[i].toNat : Int) != (b[i].toNat : Int)) = true := by rw [← byt_eq hia, ← byt_eq hib]; exact (byte_ne he).1
        rw [if_neg (show ¬ (lst a).getD i 0 = (lst b).getD i 0 from he)] at hst
        have HST := hid hst
        clear he ht hst
        go_wp2
        go_quiet (fail)
        go_wp2
        go_roundw
        case rel => exact ⟨i + 1, by omega, by go_num, by rw [HST.out]; simp, HD.out.more _⟩
        case measure => simp [intOf]; omega
    · obtain rfl : i = a.size := by omega
      have hd : decide ((a.size : Int) < (a.size : Int)) = false := decide_eq_false (by omega)
      have ef : Lev.hf (lst a) (lst b) a.size = Lev.hm (lst a) (lst b) := by
        have := Lev.hf_all (a := lst a) (b := lst b) (by rw [HLA.out, HLB.out]; exact HS.out)
        rwa [HLA.out] at this
      rw [ef]
      go_wp2
      go_ret2
      exact ⟨rfl, HD.out⟩
theorem Swaps_large (a b : ByteArray) (w : World) (h : 200 < a.size ∨ 200 < b.size) :
    Calls Try.prog 12 #[.string a, .string b] w fun e w' => e = .returned (.tuple #[.int .i64 0, .int .i64 2]) ∧ w = w' := by
  go_enter Try.func12, Try.ntmps12
  go_wp2_with fail
  with_reducible refine (sameCheck_large a b _ h).mono ?_
  rintro e w1 ⟨rfl, rfl⟩
  go_wp2
  go_ret2
  exact ⟨rfl, rfl⟩
theorem Swaps_form (a b : ByteArray) (w : World) (ha : a.size ≤ 200) (hb : b.size ≤ 200) (h : a.size ≠ b.size) :
    Calls Try.prog 12 #[.string a, .string b] w fun e w' => e = .returned (.tuple #[.int .i64 0, .int .i64 3]) ∧ w = w' := by
  have hne : ((a.size : Int) != (b.size : Int)) = true := bne_iff_ne.2 (by omega)
  have heq : ((a.size : Int) == (b.size : Int)) = false := beq_eq_false_iff_ne.2 (by omega)
  go_enter Try.func12, Try.ntmps12
  go_wp2_with fail
  with_reducible refine (sameCheck_ok a b _ ha hb).mono ?_
  rintro e w1 ⟨rfl, rfl⟩
  go_wp2
  go_ret2
  exact ⟨rfl, rfl⟩

/-- The words of l that are near: their places. -/
def nr (s : ByteArray) (g : Nat → ByteArray) (most : Int) (n : Nat) : List Nat := (List.range n).filter fun k => decide ((Lev.lv (lst s) (lst (g k)) : Int) ≤ most)
theorem nr_zero (s : ByteArray) (g : Nat → ByteArray) (most : Int) : nr s g most 0 = [] := rfl
theorem nr_yes {s : ByteArray} {g : Nat → ByteArray} {most : Int} {n : Nat} (h : (Lev.lv (lst s) (lst (g n)) : Int) ≤ most) : nr s g most (n + 1) = nr s g most n ++ [n] := by
  unfold nr
  rw [List.range_succ, List.filter_append, List.filter_cons, if_pos (decide_eq_true h)]; rfl
theorem nr_no {s : ByteArray} {g : Nat → ByteArray} {most : Int} {n : Nat} (h : ¬ (Lev.lv (lst s) (lst (g n)) : Int) ≤ most) : nr s g most (n + 1) = nr s g most n := by
  unfold nr
  rw [List.range_succ, List.filter_append, List.filter_cons, if_neg (by rw [decide_eq_true_iff]; exact h)]; simp
theorem nr_len (s : ByteArray) (g : Nat → ByteArray) (most : Int) (n : Nat) : (nr s g most n).length ≤ n := by
  have := List.length_filter_le (fun k => decide ((Lev.lv (lst s) (lst (g k)) : Int) ≤ most)) (List.range n)
  rwa [List.length_range] at this
theorem mem_nr {s : ByteArray} {g : Nat → ByteArray} {most : Int} {n k : Nat} : k ∈ nr s g most n ↔ k < n ∧ (Lev.lv (lst s) (lst (g k)) : Int) ≤ most := by
  unfold nr
  rw [List.mem_filter, List.mem_range, decide_eq_true_iff]
/-- What Near refuses. -/
def NearBad (s : ByteArray) (n : Nat) (g : Nat → ByteArray) : Prop := 200 < s.size ∨ 200 < n ∨ ∃ k, k < n ∧ 200 < (g k).size
theorem checkNear_ok {A : Option Addr} {n c : Nat} {g : Nat → ByteArray} (s : ByteArray) (w : World) (h : SRow w A n g) (hs : s.size ≤ 200) (hn : n ≤ 200) (hg : ∀ k, k < n → (g k).size ≤ 200) :
    Calls Try.prog 27 #[.string s, .slice A n c] w fun e w' => e = .returned (.int .i64 0) ∧ w = w' := by
  have H := hid h
  have HG := hid hg
  clear h hg
  go_enter Try.func27, Try.ntmps27
  go_wp2_with fail
  with_reducible refine (check_ok s _ hs).mono ?_
  rintro e w1 ⟨rfl, rfl⟩
  go_wp2
  go_loop [19] (fun i => ∃ k : Nat, k ≤ n ∧ i = .int .i64 k) (fun i => n - (intOf i).toNat)
  case atStart => exact ⟨0, by omega, rfl⟩
  case round =>
    obtain ⟨k, hk, rfl⟩ := hrel
    by_cases hkn : k < n
    · obtain ⟨b, o, rfl, hlt, hc⟩ := H.out k hkn
      have hkn' : (k : Int) < (n : Int) := by omega
      have hgk := HG.out k hkn
      go_wp2_with fail
      with_reducible refine (check_ok (g k) _ hgk).mono ?_
      rintro e w1 ⟨rfl, rfl⟩
      go_wp2
      go_round
      case rel => exact ⟨k + 1, by omega, by go_num⟩
      case measure => simp [intOf]; omega
    · obtain rfl : k = n := by omega
      go_wp2
      go_ret
      exact ⟨rfl, rfl⟩
theorem checkNear_large {A : Option Addr} {n c : Nat} {g : Nat → ByteArray} (s : ByteArray) (w : World) (h : SRow w A n g) (hb : NearBad s n g) :
    Calls Try.prog 27 #[.string s, .slice A n c] w fun e w' => e = .returned (.int .i64 2) ∧ w = w' := by
  have H := hid h
  have HB := hid hb
  clear h hb
  by_cases hs : s.size ≤ 200
  · by_cases hn : n ≤ 200
    · have HG : Hid (∃ k, k < n ∧ 200 < (g k).size) := by
        rcases HB.out with h | h | h
        · omega
        · omega
        · exact h
      go_enter Try.func27, Try.ntmps27
      go_wp2_with fail
      with_reducible refine (check_ok s _ hs).mono ?_
      rintro e w1 ⟨rfl, rfl⟩
      go_wp2
      go_loop [19] (fun i => ∃ k : Nat, k ≤ n ∧ i = .int .i64 k ∧ Hid (∃ m, k ≤ m ∧ m < n ∧ 200 < (g m).size)) (fun i => n - (intOf i).toNat)
      case atStart =>
        obtain ⟨m, h1, h2⟩ := HG.out
        exact ⟨0, by omega, rfl, ⟨m, Nat.zero_le _, h1, h2⟩⟩
      case round =>
        obtain ⟨k, hk, rfl, HM⟩ := hrel
        have hkn : k < n := by obtain ⟨m, h1, h2, _⟩ := HM.out; omega
        obtain ⟨b, o, rfl, hlt, hc⟩ := H.out k hkn
        have hkn' : (k : Int) < (n : Int) := by omega
        by_cases hgk : (g k).size ≤ 200
        · have HM2 : Hid (∃ m, k + 1 ≤ m ∧ m < n ∧ 200 < (g m).size) := by
            obtain ⟨m, h1, h2, h3⟩ := HM.out
            refine ⟨m, ?_, h2, h3⟩
            by_cases e : k = m
            · subst e; omega
            · omega
          go_wp2_with fail
          with_reducible refine (check_ok (g k) _ hgk).mono ?_
          rintro e w1 ⟨rfl, rfl⟩
          go_wp2
          go_round
          case rel => exact ⟨k + 1, by omega, by go_num, HM2⟩
          case measure => simp [intOf]; omega
        · have hgk' : 200 < (g k).size := by omega
          go_wp2_with fail
          with_reducible refine (check_large (g k) _ hgk').mono ?_
          rintro e w1 ⟨rfl, rfl⟩
          go_wp2
          go_ret
          exact ⟨rfl, rfl⟩
    · have hn' : (200 : Int) < (n : Int) := by omega
      go_enter Try.func27, Try.ntmps27
      go_wp2_with fail
      with_reducible refine (check_ok s _ hs).mono ?_
      rintro e w1 ⟨rfl, rfl⟩
      go_wp2
      go_ret
      exact ⟨rfl, rfl⟩
  · have hs' : 200 < s.size := by omega
    go_enter Try.func27, Try.ntmps27
    go_wp2_with fail
    with_reducible refine (check_large s _ hs').mono ?_
    rintro e w1 ⟨rfl, rfl⟩
    go_wp2
    go_ret
    exact ⟨rfl, rfl⟩
/-- What Near answers. -/
def NearPost (s : ByteArray) (g : Nat → ByteArray) (most : Int) (n : Nat) (w : World) (e : Ending) (w' : World) : Prop :=
  ∃ (A : Option Addr) (c : Nat), e = .returned (.tuple #[.slice A (nr s g most n).length c, .int .i64 0]) ∧ IRow w' A (nr s g most n).length (fun k => ((nr s g most n).getD k 0 : Nat)) ∧ Below w.heap.size w w'
set_option maxHeartbeats 1000000 in
theorem Near_ok {A : Option Addr} {n c : Nat} {g : Nat → ByteArray} (s : ByteArray) (most : Int) (w : World) (h : SRow w A n g) (hs : s.size ≤ 200) (hn : n ≤ 200) (hg : ∀ k, k < n → (g k).size ≤ 200) :
    Calls Try.prog 11 #[.string s, .slice A n c, .int .i64 most] w (NearPost s g most n w) := by
  have H := hid h
  have HG := hid hg
  clear h hg
  go_enter Try.func11, Try.ntmps11
  go_wp2_with fail
  with_reducible refine (checkNear_ok s _ H.out hs hn HG.out).mono ?_
  rintro e w1 ⟨rfl, rfl⟩
  go_wp2
  go_loopw [9, 20] (fun v x wr => ∃ k : Nat, k ≤ n ∧ x = .int .i64 (k : Int) ∧ Hid (OwnI wr w.heap.size v (ofN (nr s g most k))) ∧ Hid (Below w.heap.size w wr)) (fun _ x _ => n - (intOf x).toNat)
  case atStart => exact ⟨0, by omega, rfl, OwnI.zero _ _, Below.refl _ _⟩
  case round =>
    obtain ⟨k, hk, rfl, HV, HB⟩ := hrel
    by_cases hkn : k < n
    · obtain ⟨b, o, rfl, hlt, hc⟩ := H.out.keep HB.out k hkn
      have hkn' : (k : Int) < (n : Int) := by omega
      have hgk := HG.out k hkn
      obtain ⟨d, hd⟩ : ∃ d, d = Lev.lv (lst s) (lst (g k)) := ⟨_, rfl⟩
      have HD := hid hd
      clear hd
      go_wp2_with fail
      with_reducible refine (distance_ok s (g k) _ hs hgk).mono ?_
      rintro e w2 ⟨he, hb2⟩
      rw [← HD.out] at he
      subst he
      have HV2 := hid (HV.out.old hb2)
      have HB2 := hid (bl_then HB.out hb2)
      clear hb2 hc hlt HV HB
      by_cases hm : (d : Int) ≤ most
      · have HN := hid (nr_yes (s := s) (g := g) (most := most) (n := k) (by rw [← HD.out]; exact hm))
        have hl : (ofN (nr s g most k)).length < 1000000 := by rw [ofN_len]; have := nr_len s g most k; omega
        have hsz := HB2.out.size
        go_wp2_with (at_builtin; with_reducible refine app_int rfl _ _ rfl rfl HV2.out _ rfl rfl hsz hl ?_)
        intro v' w3 hown3 hb3
        rw [← ofN_snoc, ← HN.out] at hown3
        have HV3 := hid hown3
        have HB3 := hid (HB2.out.trans hb3)
        clear hown3 hb3 hsz
        go_wp2
        go_roundw
        case rel => exact ⟨k + 1, by omega, by go_num, HV3, HB3⟩
        case measure => simp [intOf]; omega
      · have HN := hid (nr_no (s := s) (g := g) (most := most) (n := k) (by rw [← HD.out]; exact hm))
        have hm' : decide ((d : Int) ≤ most) = false := decide_eq_false hm
        go_wp2
        go_roundw
        case rel => exact ⟨k + 1, by omega, by go_num, by rw [HN.out]; exact HV2, HB2⟩
        case measure => simp [intOf]; omega
    · obtain rfl : k = n := by omega
      obtain ⟨A', c', hA, hr⟩ := HV.out.irow
      rw [ofN_len] at hA hr
      subst hA
      have HP := hid (show NearPost s g most k w (.returned (.tuple #[.slice A' (nr s g most k).length c', .int .i64 0])) wr from ⟨A', c', rfl, hr.congr fun q _ => ofN_get _ q, HB.out⟩)
      clear hr HV HB
      go_wp2
      go_ret2
      exact HP.out
theorem Near_large {A : Option Addr} {n c : Nat} {g : Nat → ByteArray} (s : ByteArray) (most : Int) (w : World) (h : SRow w A n g) (hb : NearBad s n g) :
    Calls Try.prog 11 #[.string s, .slice A n c, .int .i64 most] w fun e w' => e = .returned (.tuple #[.slice none 0 0, .int .i64 2]) ∧ w = w' := by
  go_enter Try.func11, Try.ntmps11
  go_wp2_with fail
  with_reducible refine (checkNear_large s _ h hb).mono ?_
  rintro e w1 ⟨rfl, rfl⟩
  go_wp2
  go_ret2
  exact ⟨rfl, rfl⟩
/-- Near in one word: what it refuses, what it answers. -/
theorem near_bad_or {s : ByteArray} {n : Nat} {g : Nat → ByteArray} (h : ¬ NearBad s n g) : s.size ≤ 200 ∧ n ≤ 200 ∧ ∀ k, k < n → (g k).size ≤ 200 := by
  unfold NearBad at h
  refine ⟨?_, ?_, fun k hk => ?_⟩
  · exact Nat.le_of_not_lt fun q => h (.inl q)
  · exact Nat.le_of_not_lt fun q => h (.inr (.inl q))
  · exact Nat.le_of_not_lt fun q => h (.inr (.inr ⟨k, hk, q⟩))
end Go.Proofs.Ytppaicpjbcjgmaa
