
/-
quilltop.TopMirror: whatever word: it answers true.
-/
import Derived.Test.YtejcijlmpiiffaaDiffs
import Derived.Test.YtejcijlmpiiffaaDists
import Derived.Test.YtejcijlmpiiffaaSames
import Derived.Test.YtejcijlmpiiffaaMirror
import Derived.Test.YtejcijlmpiiffaaTopWorks
namespace Go.Proofs.Ytejcijlmpiiffaa
open Go.RowKit

/-- What a word, its longest mirror and the word from behind have to do with each other. -/
structure Mir (s t : ByteArray) (n d c : Nat) : Prop where
  long : t.size ≤ n
  same : d = 0 ↔ t = s
  less : d ≤ c
  all_ : c + 2 * n = 2 * s.size
  few : n ≤ 200
theorem mir_is {s : ByteArray} {a b : Nat} (hs : s.size ≤ 200) (h : Mm.IsLg (byt s) s.size a b) : Mir s (s.extract a b) (Sa.lc (lst s) (lst (backS s))) (dv s (backS s)) (fv s (backS s)) := by
  have hbs : (backS s).size ≤ 200 := by rw [backS_size]; exact hs
  obtain ⟨h1, h2, h3, h4⟩ := h
  have hp := (pal_rev h2).1 h3
  have hsub : List.Sublist (lst (s.extract a b)) (lst s) := by
    rw [lst_mid]
    exact (List.take_sublist _ _).trans (List.drop_sublist _ _)
  have hsub2 : List.Sublist (lst (s.extract a b)) (lst (backS s)) := by
    rw [lst_rev, ← hp]
    exact hsub.reverse
  have hext : ∀ u : ByteArray, lst (u.extract 0 u.size) = lst u := fun u => by rw [lst_drop, List.drop_zero]
  refine ⟨?_, ?_, ?_, ?_, ?_⟩
  · have := Sa.lc_ub (lst s) (lst (backS s)) _ hsub hsub2
    rw [lst_len] at this
    exact this
  · rw [dv_self hs hbs]
    constructor
    · intro e
      have hpal : Mm.Pal (byt s) 0 s.size := by
        refine (pal_rev (Nat.le_refl _)).2 ?_
        rw [hext, ← lst_rev, ← e]
      have hab : a = 0 ∧ b = s.size := by
        have := h4 0 s.size (Nat.zero_le _) (Nat.le_refl _) hpal
        omega
      rw [hab.1, hab.2]
      exact lst_inj_ (hext s)
    · intro e
      rw [e] at hp
      exact lst_inj_ (by rw [lst_rev, hp])
  · rw [dv_ok hs hbs, fv_ok hs hbs]
    exact Df.lv_df _ _
  · rw [fv_ok hs hbs]
    have := (df_size s (backS s)).1
    rw [backS_size] at this
    omega
  · have := (df_size s (backS s)).2
    omega
set_option maxHeartbeats 2000000 in
theorem topMirror_walk (s : ByteArray) (hs0 : s.size ≤ maxLen) (w : World) :
    Calls Try.prog 7 #[.string s] w fun e w' => e = .returned (.bool true) ∧ Below w.heap.size w w' := by
  have hcv := run_bytes_of_string (P := Try.prog) w 9 41 5 s Try.underlying9 Try.underlying41 Try.underlying5
  go_enter Try.func7, Try.ntmps7
  go_wp2_with fail
  clear hcv
  with_reducible refine (reverse_any w.heap.size s.size _ (byt s) _ (new_bytes w s _ _).drew hs0).mono ?_
  rintro e w1 ⟨rfl, HB, hb⟩
  have hcv2 := run_convert_bytes_arg (P := Try.prog) w1 41 5 Try.underlying41 Try.underlying5 w.heap.size 0 s.size (grownCap w s.size 0 5) ((List.range s.size).map fun k => ((byt s (s.size - 1 - k)).toNat : Int)) (by simp) (fun i hi => by
    rw [Nat.zero_add, (HB i hi).1, List.getD_eq_getElem?_getD, List.getElem?_map, List.getElem?_range hi]
    rfl) 9 Try.underlying9
  have HB1 := hid ((bl_new w (.cells (bytesRow s (grownCap w s.size 0 5)) 5 ((bytesRow s (grownCap w s.size 0 5)).size, (bytesRow s (grownCap w s.size 0 5)).size + 1))).drew.trans hb)
  rw [show strOfNums ((List.range s.size).map fun k => ((byt s (s.size - 1 - k)).toNat : Int)) = backS s from rfl] at hcv2
  clear HB hb
  by_cases hs : s.size ≤ 200
  · have hbs : (backS s).size ≤ 200 := by rw [backS_size]; exact hs
    have hde := de_ok hs hbs
    have hfe := fe_ok hs hbs
    go_wp2_with fail
    with_reducible refine (Longest_ok s _ hs).mono ?_
    rintro e w2 ⟨⟨a, b, rfl, hlg⟩, hb2⟩
    have hM := mir_is hs hlg
    have HB2 := hid (bl_then HB1.out hb2)
    clear hb2 hcv2 hlg
    obtain ⟨r, hr⟩ : ∃ r, r = backS s := ⟨_, rfl⟩
    obtain ⟨t, ht⟩ : ∃ t, t = s.extract a b := ⟨_, rfl⟩
    rw [← hr, ← ht] at hM
    rw [← hr] at hde hfe hbs
    rw [← hr, ← ht]
    clear hr ht
    have hL := fun W => Long_ok s r W hs hbs
    have hO := fun W => Of_any s r W
    have hC := fun W => Cost_any s r W
    obtain ⟨n, hn⟩ : ∃ n, n = Sa.lc (lst s) (lst r) := ⟨_, rfl⟩
    obtain ⟨d, hd⟩ : ∃ d, d = dv s r := ⟨_, rfl⟩
    obtain ⟨c, hc⟩ : ∃ c, c = fv s r := ⟨_, rfl⟩
    rw [← hn, ← hd, ← hc] at hM
    rw [← hn] at hL
    rw [hde, ← hd] at hO
    rw [hfe, ← hc] at hC
    have HL := hid hL
    have HO := hid hO
    have HC := hid hC
    have HM := hid hM
    have hd9 : d ≤ 200 := by rw [hd]; exact dv_le s r
    clear hL hO hC hM hn hd hc hde hfe hbs
    go_wp2_with fail
    with_reducible refine (HL.out _).mono ?_
    rintro e w3 ⟨rfl, hb2⟩
    have HB3 := hid (bl_then HB2.out hb2)
    clear hb2 HL
    go_wp2_with fail
    with_reducible refine (HO.out _).mono ?_
    rintro e w4 ⟨rfl, hb2⟩
    have HB4 := hid (bl_then HB3.out hb2)
    clear hb2 HO
    go_wp2_with fail
    with_reducible refine (HC.out _).mono ?_
    rintro e w5 ⟨rfl, hb2⟩
    have HB5 := hid (bl_then HB4.out hb2)
    clear hb2 HC
    go_wp2_with fail
    with_reducible refine (works_ok _).mono ?_
    rintro e w6 ⟨rfl, hb2⟩
    have HB6 := hid (bl_then HB5.out hb2)
    clear hb2
    have hz3 := zeros3 w6 23
    have HB7 := hid (HB6.out.alloc HB6.out.size (.cells #[.int .i64 0, .int .i64 0, .int .i64 0] 23))
    go_wp2_with fail
    with_reducible refine (topGood_ok _ 3 3 _ (by decide) hz3).mono ?_
    rintro e w7 ⟨rfl, rfl⟩
    clear hz3
    obtain ⟨m1, m2, m3, m4, m5⟩ := HM.out
    have q1 : (t.size : Int) ≤ (n : Int) := by omega
    have q2 : (d : Int) ≤ (c : Int) := by omega
    have q3 : (c : Int) % 2 = 0 := by omega
    have q4 : Int.tmod (c : Int) 2 = 0 := by rw [Int.tmod_eq_emod_of_nonneg (by omega)]; exact q3
    have w1 : IntKind.i64.wrap (2 * (s.size : Int)) = 2 * (s.size : Int) := IntWalk.i64_in _ (by omega)
    have w2 : IntKind.i64.wrap (2 * (n : Int)) = 2 * (n : Int) := IntWalk.i64_in _ (by omega)
    have w3 : 2 * (s.size : Int) - 2 * (n : Int) = (c : Int) := by omega
    have w4 : IntKind.i64.wrap (c : Int) = (c : Int) := IntWalk.i64_in _ (by omega)
    have hn2 : n ≤ 200 := m5
    by_cases hts : t = s
    · have h1 : (t.toList == s.toList) = true := by rw [hts]; simp
      have h2 : ((d : Int) == 0) = true := by rw [m2.2 hts]; rfl
      clear m1 m2 m3 m4 m5 HM hts
      go_wp2
      go_ret
      exact ⟨rfl, HB7.out⟩
    · have h1 : (t.toList == s.toList) = false := beq_eq_false_iff_ne.2 fun e => hts (list_eq.1 e)
      have h2 : ((d : Int) == 0) = false := beq_eq_false_iff_ne.2 (by intro h; exact hts (m2.1 (by omega)))
      clear m1 m2 m3 m4 m5 HM hts
      go_wp2
      go_ret
      exact ⟨rfl, HB7.out⟩
  · have hl : 200 < s.size ∨ 200 < (backS s).size := by omega
    have hbad : ¬ (s.size ≤ 200 ∧ (backS s).size ≤ 200) := by omega
    have hl0 : 200 < s.size := by omega
    have hO := fun W => Of_any s (backS s) W
    have hC := fun W => Cost_any s (backS s) W
    rw [dv_bad hbad, de_bad hbad] at hO
    rw [fv_bad hbad, fe_bad hbad] at hC
    obtain ⟨r, hr⟩ : ∃ r, r = backS s := ⟨_, rfl⟩
    rw [← hr] at hl hO hC hcv2
    have HO := hid hO
    have HC := hid hC
    clear hO hC hbad hr
    go_wp2_with fail
    with_reducible refine (Longest_large s _ hl0).mono ?_
    rintro e w2 ⟨rfl, rfl⟩
    clear hcv2
    go_wp2_with fail
    with_reducible refine (Long_large s r _ hl).mono ?_
    rintro e w3 ⟨rfl, rfl⟩
    go_wp2_with fail
    with_reducible refine (HO.out _).mono ?_
    rintro e w4 ⟨rfl, hb2⟩
    have HB4 := hid (bl_then HB1.out hb2)
    clear hb2 HO
    go_wp2_with fail
    with_reducible refine (HC.out _).mono ?_
    rintro e w5 ⟨rfl, hb2⟩
    have HB5 := hid (bl_then HB4.out hb2)
    clear hb2 HC
    go_wp2_with fail
    with_reducible refine (works_ok _).mono ?_
    rintro e w6 ⟨rfl, hb2⟩
    have HB6 := hid (bl_then HB5.out hb2)
    clear hb2
    go_wp2_with fail
    with_reducible refine (works_ok _).mono ?_
    rintro e w7 ⟨rfl, hb2⟩
    have HB7 := hid (bl_then HB6.out hb2)
    clear hb2
    go_wp2
    go_ret
    exact ⟨rfl, HB7.out⟩
end Go.Proofs.Ytejcijlmpiiffaa
