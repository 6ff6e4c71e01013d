
/-
quillkeep.PhraseFew: whatever s, n: it answers true.
-/
import Derived.Test.YtpifmahnlapdbaaPhs
import Derived.Test.YtpifmahnlapdbaaKeep
import Derived.Test.YtpifmahnlapdbaaShelfZ
namespace Go.Proofs.Ytpifmahnlapdbaa
open Go.RowKit

theorem rep_one (x : UInt8) : ∀ n, Lib.repeatL [x] n = List.replicate n x
  | 0 => rfl
  | n + 1 => by rw [List.replicate_succ, ← rep_one x n]; rfl
theorem phraseFew_any (s : ByteArray) (k : Int) (_hs : s.size ≤ maxLen) (_hk : (Lit.int .i64 k).wf = true) (w : World) :
    Calls Try.prog 5 #[.string s, .int .i64 k] w fun e w' => e = .returned (.bool true) ∧ Below w.heap.size w w' := by
  have hwith : ∀ (w : World), Calls Try.prog 17 #[.int .i64 k, .int .i64 201] w fun e w' => e = .returned (.int .i64 ((k % 201).toNat : Int)) ∧ w = w' := fun w => within_any k 201 w (by decide) (by decide)
  obtain ⟨n, hn⟩ : ∃ n, n = (k % 201).toNat := ⟨_, rfl⟩
  rw [← hn] at hwith
  have hn2 : n ≤ 200 := by omega
  clear hn
  by_cases hs : s.size ≤ 200
  · have hrep : ∀ w, Calls Try.prog 18 #[.string ⟨#[120]⟩, .int .i64 (n : Int)] w fun e w' => e = .returned (.string (mkS (List.replicate n 120))) ∧ Below w.heap.size w w' := by
      intro w
      have := Try.strings_Repeat ⟨#[120]⟩ n w (by omega) (by show 1 * n ≤ _; omega)
      have e : Lib.repeatL (⟨#[120]⟩ : ByteArray).data.toList n = List.replicate n 120 := rep_one 120 n
      rw [e] at this
      exact this
    obtain ⟨t, ht⟩ : ∃ t, t = mkS (List.replicate n 120) := ⟨_, rfl⟩
    rw [← ht] at hrep
    have htz : t.size ≤ 200 := by rw [ht, mk_size, List.length_replicate]; exact hn2
    have hlt : lst t = List.replicate n 120 := by rw [ht, lst_mk]
    have hfew := Ph.few (x := 120) (n := n)
    rw [← hlt] at hfew
    have hL := Ph.prun_len (lst s)
    rw [lst_len] at hL
    have hM := Ph.prun_len (lst t)
    rw [lst_len] at hM
    obtain ⟨L, hLL⟩ : ∃ L, L = (Ph.prun (lst s)).1 := ⟨_, rfl⟩
    obtain ⟨M, hMM⟩ : ∃ M, M = (Ph.prun (lst t)).1 := ⟨_, rfl⟩
    rw [← hLL] at hL
    rw [← hMM] at hM hfew
    obtain ⟨r, hr⟩ : ∃ r, r = mkS (Ph.prest (lst t)) := ⟨_, rfl⟩
    have hrz : r.size = (Ph.prest (lst t)).length := by rw [hr, mk_size]
    rw [← hrz] at hfew
    clear hrz hlt ht
    obtain ⟨m, hm⟩ : ∃ m, m = M.length := ⟨_, rfl⟩
    rw [← hm] at hM hfew
    obtain ⟨hf1, hf2⟩ := hfew
    obtain ⟨q, hq⟩ : ∃ q, q = m * (m + 1) := ⟨_, rfl⟩
    rw [← hq] at hf2
    have HLs := hid hLL
    have HMs := hid hMM
    have HR := hid hr
    have Hm := hid hm
    have e1 : (m : Int) * ((m : Int) + 1) = (q : Int) := by rw [hq, Int.natCast_mul]; rfl
    have e1w : IntKind.i64.wrap (q : Int) = (q : Int) := IntWalk.i64_in _ (by omega)
    obtain ⟨h, hh⟩ : ∃ h, h = q / 2 := ⟨_, rfl⟩
    have e2 : (q : Int).tdiv 2 = (h : Int) := by rw [hh, Int.tdiv_eq_ediv_of_nonneg (by omega)]; omega
    have e2' : (q : Int) / 2 = (h : Int) := by omega
    have e2w : IntKind.i64.wrap (h : Int) = (h : Int) := IntWalk.i64_in _ (by omega)
    have e3 : (h : Int) + (r.size : Int) = (n : Int) := by omega
    have e3w : IntKind.i64.wrap (n : Int) = (n : Int) := IntWalk.i64_in _ (by omega)
    have e4w : IntKind.i64.wrap ((m : Int) + 1) = (m : Int) + 1 := IntWalk.i64_in _ (by omega)
    have en : ((n : Int) == (n : Int)) = true := by simp
    have hLi : (L.length : Int) ≤ (s.size : Int) := by omega
    have hri : (r.size : Int) ≤ (m : Int) := by omega
    clear hLL hMM hr hm hq hf2 hh
    go_enter Try.func5, Try.ntmps5
    go_wp2_with fail
    with_reducible refine (phrases_ok _).mono ?_
    rintro e w1 ⟨rfl, hb1⟩
    have HB1 := hid hb1
    clear hb1
    go_wp2_with fail
    with_reducible refine (Put_ok s _ hs).mono ?_
    rw [← HLs.out]
    rintro e w2 ⟨v, rfl, hown, hb⟩
    obtain ⟨A, c, rfl, hc, hrow⟩ := hown.row
    have HB2 := hid (bl_then HB1.out hb)
    generalize mkS (Ph.prest (lst s)) = r1
    clear hown hb hrow HB1
    go_wp2_with fail
    with_reducible refine (hwith _).mono ?_
    rintro e w3 ⟨rfl, rfl⟩
    go_wp2_with fail
    with_reducible refine (hrep _).mono ?_
    rintro e w4 ⟨rfl, hb⟩
    have HB4 := hid (bl_then HB2.out hb)
    clear hb HB2
    go_wp2_with fail
    with_reducible refine (Put_ok t _ htz).mono ?_
    rw [← HMs.out, ← HR.out]
    rintro e w5 ⟨v, rfl, hown, hb⟩
    obtain ⟨B, c2, rfl, hc2, hrow⟩ := hown.row
    have HB5 := hid (bl_then HB4.out hb)
    rw [← Hm.out]
    clear hown hb hrow HB4 hc2
    go_wp2
    go_ret
    exact ⟨rfl, HB5.out⟩
  · go_enter Try.func5, Try.ntmps5
    go_wp2_with fail
    with_reducible refine (phrases_ok _).mono ?_
    rintro e w1 ⟨rfl, hb1⟩
    go_wp2_with fail
    with_reducible refine (Put_large s _ (by omega)).mono ?_
    rintro e w2 ⟨rfl, rfl⟩
    go_wp2
    go_ret
    exact ⟨rfl, hb1⟩
end Go.Proofs.Ytpifmahnlapdbaa
