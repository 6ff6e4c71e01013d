/-
The walk of quillkeep.SuffixTwice: it returns true for every string and whatever three numbers.
-/
import Derived.Test.YtcnfdmpggnhlgaaUnlike
import Derived.Test.YtcnfdmpggnhlgaaKeep
import Derived.Test.YtcnfdmpggnhlgaaApp
import Derived.Test.YtcnfdmpggnhlgaaShelfT
namespace Go.Proofs.Ytcnfdmpggnhlgaa
open Go.RowKit

def banS : ByteArray := ⟨#[98, 97, 110, 97, 110, 97]⟩
theorem ban_sa : Sm.saL (lst banS) = [5, 3, 1, 0, 4, 2] := Sm.SA.unique (Sm.saL_sa _) ⟨by decide +kernel, by decide +kernel⟩
theorem ban_tw : Sm.IsTw (lst banS) [97, 110, 97] := by
  refine Sm.TwAt.done ⟨?_, .inr ⟨2, ?_, ?_, ?_, ?_⟩⟩
  · unfold Sm.C Sm.X Sm.sa; rw [ban_sa]; decide +kernel
  · decide +kernel
  · unfold Sm.C Sm.X Sm.sa; rw [ban_sa]; decide +kernel
  · unfold Sm.C Sm.X Sm.sa; rw [ban_sa]; decide +kernel
  · unfold Sm.C Sm.X Sm.sa; rw [ban_sa]; decide +kernel
theorem lst_inj {a b : ByteArray} (h : lst a = lst b) : a = b := by
  unfold lst at h
  cases a; cases b
  simp at h
  rw [h]
theorem ban_is {t : ByteArray} (h : Sm.IsTw (lst banS) (lst t)) : t = ⟨#[97, 110, 97]⟩ := lst_inj (h.unique ban_tw)
theorem occ_iff {s t : List UInt8} {i : Nat} : Lib.occAt s t i = true ↔ t <+: s.drop i := by unfold Lib.occAt; exact List.isPrefixOf_iff_prefix
/-- Where a word stands first. -/
theorem index_of {s t : List UInt8} : ∀ p, p ≤ s.length → t <+: s.drop p → ∃ a : Nat, Lib.index s t = (a : Int) ∧ a ≤ p := by
  intro p
  induction p using Nat.strongRecOn with
  | _ p ih =>
    intro hp h
    by_cases hx : ∃ q, q < p ∧ t <+: s.drop q
    · obtain ⟨q, h1, h2⟩ := hx
      obtain ⟨a, h3, h4⟩ := ih q h1 (by omega) h2
      exact ⟨a, h3, by omega⟩
    · refine ⟨p, Lib.index_first hp (occ_iff.2 h) fun j hj => ?_, Nat.le_refl _⟩
      rw [← Bool.not_eq_true, occ_iff]
      exact fun hq => hx ⟨j, hj, hq⟩
theorem last_of {s t : List UInt8} {q : Nat} (hq : q + t.length ≤ s.length) (h : t <+: s.drop q) : (q : Int) ≤ Lib.lastIndex s t := by
  unfold Lib.lastIndex
  rw [if_pos (by omega)]
  rcases Lib.lastOcc_spec s t (s.length - t.length + 1) with ⟨_, hn⟩ | ⟨i, hi, e, _, hn⟩
  · have := hn q (by omega)
    rw [occ_iff.2 h] at this
    cases this
  · rw [e]
    rcases Nat.lt_or_ge i q with hx | hx
    · have := hn q hx (by omega)
      rw [occ_iff.2 h] at this
      cases this
    · omega
theorem mod_lt (k : Int) (n : Nat) (h : 0 < n) : (k % n).toNat < n := by
  have h2 := Int.emod_nonneg k (show (n : Int) ≠ 0 by omega)
  have h3 := Int.emod_lt_of_pos k (show (0 : Int) < n by omega)
  omega
/-- Two places with the same c bytes: c is no more than what stands twice. -/
theorem tw_len {s t : ByteArray} {a b c : Nat} (h : Sm.IsTw (lst s) (lst t)) (hab : a ≠ b) (ha : a + c ≤ s.size) (hb : b + c ≤ s.size) (e : s.extract a (a + c) = s.extract b (b + c)) : c ≤ t.size := by
  have e2 := congrArg lst e
  rw [lst_mid, lst_mid, Nat.add_sub_cancel_left, Nat.add_sub_cancel_left] at e2
  have hl : (((lst s).drop a).take c).length = c := by rw [List.length_take, List.length_drop, lst_len]; omega
  have hr : Sm.Rep (lst s) (((lst s).drop a).take c) := by
    rcases Nat.lt_or_ge a b with hx | hx
    · exact ⟨a, b, hx, by rw [hl, lst_len]; omega, List.take_prefix _ _, by rw [e2]; exact List.take_prefix _ _⟩
    · exact ⟨b, a, by omega, by rw [hl, lst_len]; omega, by rw [e2]; exact List.take_prefix _ _, List.take_prefix _ _⟩
  have := h.2 _ hr
  rw [hl, lst_len] at this
  omega
theorem suffixTwice_large (s : ByteArray) (i k n : Int) (w : World) (hs : 200 < s.size) :
    Calls Try.prog 6 #[.string s, .int .i64 i, .int .i64 k, .int .i64 n] w fun e w' => e = .returned (.bool true) ∧ Below w.heap.size w w' := by
  go_enter Try.func6, Try.ntmps6
  go_wp2_with fail
  refine (Twice_ok banS _ (by decide)).mono ?_
  rintro e w1 ⟨⟨t, rfl, ht⟩, hb1⟩
  obtain rfl := ban_is ht
  clear ht
  go_wp2_with fail
  with_reducible refine (Twice_large s _ hs).mono ?_
  rintro e w2 ⟨rfl, rfl⟩
  go_wp2
  go_ret
  exact ⟨rfl, hb1⟩
theorem suffixTwice_empty (s : ByteArray) (i k n : Int) (w : World) (hz : s.size = 0) :
    Calls Try.prog 6 #[.string s, .int .i64 i, .int .i64 k, .int .i64 n] w fun e w' => e = .returned (.bool true) ∧ Below w.heap.size w w' := by
  have hne := no_bytes hz
  go_enter Try.func6, Try.ntmps6
  go_wp2_with fail
  refine (Twice_ok banS _ (by decide)).mono ?_
  rintro e w1 ⟨⟨t, rfl, ht⟩, hb1⟩
  obtain rfl := ban_is ht
  clear ht
  go_wp2_with fail
  with_reducible refine (Twice_ok s _ (by omega)).mono ?_
  rintro e w2 ⟨⟨t, rfl, ht2⟩, hb2⟩
  have htz : t.size = 0 := by
    rcases ht2.1 with h | h
    · rw [← lst_len, h]; rfl
    · have := Sm.rep_short h
      rw [lst_len, lst_len] at this
      omega
  have hte := no_bytes htz
  clear ht2 htz hz
  go_wp2
  go_ret
  exact ⟨rfl, bl_then hb1 hb2⟩
set_option maxHeartbeats 1000000 in
theorem suffixTwice_ok (s : ByteArray) (i k n : Int) (w : World) (hs : s.size ≤ 200) (h0 : 0 < s.size) (hm : ∃ m, w.cell? ⟨0, 0, none⟩ = some (.int .i64 m)) (hw : 0 < w.heap.size) :
    Calls Try.prog 6 #[.string s, .int .i64 i, .int .i64 k, .int .i64 n] w fun e w' => e = .returned (.bool true) ∧ Below w.heap.size w w' := by
  obtain ⟨m, hm⟩ := hm
  have HM := hid hm
  have HW := hid hw
  clear hm hw
  have hne := some_bytes h0
  have hW1 := fun W => within_any i s.size W h0 (by omega)
  have hW2 := fun W => within_any k s.size W h0 (by omega)
  have hW3 := fun W => within_any n (s.size + 1) W (by omega) (by omega)
  have ha := mod_lt i s.size h0
  have hb := mod_lt k s.size h0
  have hc := mod_lt n (s.size + 1) (by omega)
  generalize (i % (s.size : Int)).toNat = a at hW1 ha
  generalize (k % (s.size : Int)).toNat = b at hW2 hb
  generalize (n % ((s.size + 1 : Nat) : Int)).toNat = c at hW3 hc
  obtain ⟨z1, hz1⟩ : ∃ z1, z1 = s.size + 1 := ⟨_, rfl⟩
  rw [← hz1] at hW3
  have ez1 : (s.size : Int) + 1 = (z1 : Int) := by omega
  clear hz1
  go_enter Try.func6, Try.ntmps6
  go_wp2_with fail
  refine (Twice_ok banS _ (by decide)).mono ?_
  rintro e w1 ⟨⟨t, rfl, ht⟩, hb1⟩
  obtain rfl := ban_is ht
  clear ht
  go_wp2_with fail
  with_reducible refine (Twice_ok s _ hs).mono ?_
  rintro e w2 ⟨⟨t, rfl, ht2⟩, hb2⟩
  have HB := hid (bl_then hb1 hb2)
  have hm2 : w2.cell? ⟨0, 0, none⟩ = some (.int .i64 m) := (HB.out.cell (p := ⟨0, 0, none⟩) HW.out).trans HM.out
  clear hb1 hb2
  have HT := hid ht2
  go_wp2_with fail
  with_reducible refine (Try.strings_Index s t m _ (by omega) hm2).mono ?_
  rintro e w3 ⟨rfl, rfl⟩
  clear hm2
  by_cases htz : t.size = 0
  · have hte := no_bytes htz
    have htn : lst t = [] := List.eq_nil_of_length_eq_zero (by rw [lst_len]; exact htz)
    obtain ⟨q, hq, _⟩ := index_of (s := lst s) (t := lst t) 0 (Nat.zero_le _) (by rw [htn]; exact List.nil_prefix)
    rw [show Lib.index s.data.toList t.data.toList = (q : Int) from hq]
    clear ht2 htz htn hq
    go_wp2_with fail
    with_reducible refine (hW1 _).mono ?_
    rintro e w5 ⟨rfl, rfl⟩
    go_wp2_with fail
    with_reducible refine (hW2 _).mono ?_
    rintro e w5 ⟨rfl, rfl⟩
    go_wp2_with fail
    with_reducible refine (hW3 _).mono ?_
    rintro e w5 ⟨rfl, rfl⟩
    clear hW1 hW2 hW3
    by_cases hab : a = b
    · subst hab
      have hab2 : ((a : Int) == (a : Int)) = true := by simp
      go_wp2
      go_quiet (fail)
      go_wp2
      go_ret
      exact ⟨rfl, bl_drewN HB.out _⟩
    · have hab2 : ((a : Int) == (b : Int)) = false := by rw [beq_eq_false_iff_ne]; omega
      obtain ⟨mx, hmx⟩ : ∃ mx : Nat, max a b = mx := ⟨_, rfl⟩
      have emx : max (a : Int) (b : Int) = (mx : Int) := by omega
      have hmx2 : a ≤ mx ∧ b ≤ mx ∧ mx < s.size := by omega
      clear hmx
      obtain ⟨j, hj⟩ : ∃ j, j = mx + c := ⟨_, rfl⟩
      have ej : (mx : Int) + (c : Int) = (j : Int) := by omega
      have ej0 : (0 : Int) ≤ (j : Int) := by omega
      have ejw : IntKind.i64.wrap (j : Int) = (j : Int) := IntWalk.i64_in _ (by omega)
      have HJ := hid hj
      clear hj
      by_cases hfit : s.size < j
      · have hfit' : (s.size : Int) < (j : Int) := by omega
        go_wp2
        go_quiet (fail)
        go_wp2
        go_ret
        exact ⟨rfl, bl_drewN HB.out _⟩
      · have hfit' : decide ((s.size : Int) < (j : Int)) = false := decide_eq_false (by omega)
        have hfit2 : decide (s.size < j) = false := decide_eq_false (by omega)
        obtain ⟨ja, hja⟩ : ∃ ja, ja = a + c := ⟨_, rfl⟩
        obtain ⟨jb, hjb⟩ : ∃ jb, jb = b + c := ⟨_, rfl⟩
        have hj := HJ.out
        have eja : (a : Int) + (c : Int) = (ja : Int) := by omega
        have ejb : (b : Int) + (c : Int) = (jb : Int) := by omega
        have eja1 : (a : Int) ≤ (ja : Int) := by omega
        have ejb1 : (b : Int) ≤ (jb : Int) := by omega
        have eja2 : (ja : Int) ≤ (s.size : Int) := by omega
        have ejb2 : (jb : Int) ≤ (s.size : Int) := by omega
        have eja0 : (0 : Int) ≤ (ja : Int) := by omega
        have ejb0 : (0 : Int) ≤ (jb : Int) := by omega
        have ejaw : IntKind.i64.wrap (ja : Int) = (ja : Int) := IntWalk.i64_in _ (by omega)
        have ejbw : IntKind.i64.wrap (jb : Int) = (jb : Int) := IntWalk.i64_in _ (by omega)
        have HC : Hid (s.extract a ja = s.extract b jb → c ≤ t.size) := fun e => tw_len HT.out hab (by omega) (by omega) (by rw [← hja, ← hjb]; exact e)
        clear hja hjb hj
        by_cases he : s.extract a ja = s.extract b jb
        · have hct : (c : Int) ≤ (t.size : Int) := by have := HC.out he; omega
          have heq : ((s.extract a ja).toList == (s.extract b jb).toList) = true := by rw [he]; simp
          have hnq : ((s.extract a ja).toList != (s.extract b jb).toList) = false := by rw [he]; simp
          clear he HC
          go_wp2
          go_quiet (fail)
          go_wp2
          go_ret
          exact ⟨rfl, bl_drewN HB.out _⟩
        · have heq : ((s.extract a ja).toList == (s.extract b jb).toList) = false := beq_eq_false_iff_ne.2 fun e => he (list_eq.1 e)
          have hnq : ((s.extract a ja).toList != (s.extract b jb).toList) = true := by rw [bne, heq]; rfl
          clear he HC
          go_wp2
          go_quiet (fail)
          go_wp2
          go_ret
          exact ⟨rfl, bl_drewN HB.out _⟩
  · have hte := some_bytes (s := t) (by omega)
    have htn : lst t ≠ [] := fun e => htz (by rw [← lst_len, e]; rfl)
    obtain ⟨p, q, hpq, hq, h1, h2⟩ := ht2.1.resolve_left htn
    obtain ⟨x, hx, hxp⟩ := index_of (s := lst s) (t := lst t) p (by omega) h1
    have hy := last_of hq h2
    rw [show Lib.index s.data.toList t.data.toList = (x : Int) from hx]
    obtain ⟨y, ey⟩ : ∃ y, Lib.lastIndex s.data.toList t.data.toList = y := ⟨_, rfl⟩
    have hxy : (y == (x : Int)) = false := by
      rw [beq_eq_false_iff_ne]
      have : (q : Int) ≤ y := by rw [← ey]; exact hy
      omega
    clear ht2 htz htn hx hy h1 h2 hpq hq hxp
    go_wp2_with fail
    with_reducible refine (Try.strings_LastIndex s t (by omega) _).mono ?_
    rintro e w4 ⟨rfl, rfl⟩
    rw [ey]
    clear ey
    go_wp2_with fail
    with_reducible refine (hW1 _).mono ?_
    rintro e w5 ⟨rfl, rfl⟩
    go_wp2_with fail
    with_reducible refine (hW2 _).mono ?_
    rintro e w5 ⟨rfl, rfl⟩
    go_wp2_with fail
    with_reducible refine (hW3 _).mono ?_
    rintro e w5 ⟨rfl, rfl⟩
    clear hW1 hW2 hW3
    by_cases hab : a = b
    · subst hab
      have hab2 : ((a : Int) == (a : Int)) = true := by simp
      go_wp2
      go_quiet (fail)
      go_wp2
      go_ret
      exact ⟨rfl, bl_drewN HB.out _⟩
    · have hab2 : ((a : Int) == (b : Int)) = false := by rw [beq_eq_false_iff_ne]; omega
      obtain ⟨mx, hmx⟩ : ∃ mx : Nat, max a b = mx := ⟨_, rfl⟩
      have emx : max (a : Int) (b : Int) = (mx : Int) := by omega
      have hmx2 : a ≤ mx ∧ b ≤ mx ∧ mx < s.size := by omega
      clear hmx
      obtain ⟨j, hj⟩ : ∃ j, j = mx + c := ⟨_, rfl⟩
      have ej : (mx : Int) + (c : Int) = (j : Int) := by omega
      have ej0 : (0 : Int) ≤ (j : Int) := by omega
      have ejw : IntKind.i64.wrap (j : Int) = (j : Int) := IntWalk.i64_in _ (by omega)
      have HJ := hid hj
      clear hj
      by_cases hfit : s.size < j
      · have hfit' : (s.size : Int) < (j : Int) := by omega
        go_wp2
        go_quiet (fail)
        go_wp2
        go_ret
        exact ⟨rfl, bl_drewN HB.out _⟩
      · have hfit' : decide ((s.size : Int) < (j : Int)) = false := decide_eq_false (by omega)
        have hfit2 : decide (s.size < j) = false := decide_eq_false (by omega)
        obtain ⟨ja, hja⟩ : ∃ ja, ja = a + c := ⟨_, rfl⟩
        obtain ⟨jb, hjb⟩ : ∃ jb, jb = b + c := ⟨_, rfl⟩
        have hj := HJ.out
        have eja : (a : Int) + (c : Int) = (ja : Int) := by omega
        have ejb : (b : Int) + (c : Int) = (jb : Int) := by omega
        have eja1 : (a : Int) ≤ (ja : Int) := by omega
        have ejb1 : (b : Int) ≤ (jb : Int) := by omega
        have eja2 : (ja : Int) ≤ (s.size : Int) := by omega
        have ejb2 : (jb : Int) ≤ (s.size : Int) := by omega
        have eja0 : (0 : Int) ≤ (ja : Int) := by omega
        have ejb0 : (0 : Int) ≤ (jb : Int) := by omega
        have ejaw : IntKind.i64.wrap (ja : Int) = (ja : Int) := IntWalk.i64_in _ (by omega)
        have ejbw : IntKind.i64.wrap (jb : Int) = (jb : Int) := IntWalk.i64_in _ (by omega)
        have HC : Hid (s.extract a ja = s.extract b jb → c ≤ t.size) := fun e => tw_len HT.out hab (by omega) (by omega) (by rw [← hja, ← hjb]; exact e)
        clear hja hjb hj
        by_cases he : s.extract a ja = s.extract b jb
        · have hct : (c : Int) ≤ (t.size : Int) := by have := HC.out he; omega
          have heq : ((s.extract a ja).toList == (s.extract b jb).toList) = true := by rw [he]; simp
          have hnq : ((s.extract a ja).toList != (s.extract b jb).toList) = false := by rw [he]; simp
          clear he HC
          go_wp2
          go_quiet (fail)
          go_wp2
          go_ret
          exact ⟨rfl, bl_drewN HB.out _⟩
        · have heq : ((s.extract a ja).toList == (s.extract b jb).toList) = false := beq_eq_false_iff_ne.2 fun e => he (list_eq.1 e)
          have hnq : ((s.extract a ja).toList != (s.extract b jb).toList) = true := by rw [bne, heq]; rfl
          clear he HC
          go_wp2
          go_quiet (fail)
          go_wp2
          go_ret
          exact ⟨rfl, bl_drewN HB.out _⟩
theorem suffixTwice_walk (s : ByteArray) (i k n : Int) (_ : s.size ≤ maxLen) (_ : (Lit.int .i64 i).wf = true) (_ : (Lit.int .i64 k).wf = true) (_ : (Lit.int .i64 n).wf = true) (w : World) (hm : ∃ m, w.cell? ⟨0, 0, none⟩ = some (.int .i64 m)) (hw : 0 < w.heap.size) :
    Calls Try.prog 6 #[.string s, .int .i64 i, .int .i64 k, .int .i64 n] w fun e w' => e = .returned (.bool true) ∧ Below w.heap.size w w' := by
  by_cases hs : s.size ≤ 200
  · rcases Nat.eq_zero_or_pos s.size with h0 | h0
    · exact suffixTwice_empty s i k n w h0
    · exact suffixTwice_ok s i k n w hs h0 hm hw
  · exact suffixTwice_large s i k n w (by omega)
end Go.Proofs.Ytcnfdmpggnhlgaa
