/-
quillkeep.TurnOnly: whatever t, i, k: it answers true.
-/
import Derived.Test.YtljpjjokfkbdcaaTurns
namespace Go.Proofs.Ytljpjjokfkbdcaa
open Go.RowKit

theorem turnOnly_any (t : ByteArray) (i k : Int) (_ht : t.size ≤ maxLen) (_hi : (Lit.int .i64 i).wf = true) (_hk : (Lit.int .i64 k).wf = true) (w : World) :
    Calls Try.prog 7 #[.string t, .int .i64 i, .int .i64 k] w fun e w' => e = .returned (.bool true) ∧ Below w.heap.size w w' := by
  go_enter Try.func7, Try.ntmps7
  go_wp2_with fail
  with_reducible refine (Get_ban _).mono ?_
  rintro e w1 ⟨rfl, hb1⟩
  go_wp2_with fail
  with_reducible refine (Get_out t i _).mono ?_
  rintro e w2 ⟨h2, hb2⟩
  have hb2 := bl_then hb1 hb2
  clear hb1
  rcases h2 with ⟨c, c1, c2, rfl⟩ | ⟨A, n, rfl, hA, hp, rfl⟩
  · go_wp2_with fail
    with_reducible refine (Get_out t k _).mono ?_
    rintro e w3 ⟨h3, hb3⟩
    have hb3 := bl_then hb2 hb3
    clear hb2
    rcases h3 with ⟨d, d1, d2, rfl⟩ | ⟨B, m, rfl, hB, hq, rfl⟩
    · go_wp2
      go_ret
      exact ⟨rfl, hb3⟩
    · clear hq
      go_wp2
      go_ret
      exact ⟨rfl, hb3⟩
  · have HP := hid hp
    clear hp
    go_wp2_with fail
    with_reducible refine (Get_out t k _).mono ?_
    rintro e w3 ⟨h3, hb3⟩
    have hb3 := bl_then hb2 hb3
    clear hb2
    rcases h3 with ⟨d, d1, d2, rfl⟩ | ⟨B, m, rfl, hB, hq, rfl⟩
    · go_wp2
      go_ret
      exact ⟨rfl, hb3⟩
    · have HQ := hid hq
      clear hq
      go_wp2_with fail
      with_reducible refine (Put_ok A _ hA).mono ?_
      rintro e w4 ⟨u, a, rfl, hr, hb4⟩
      have hb4 := bl_then hb3 hb4
      clear hb3
      obtain ⟨h1, h2⟩ := hr.unique HP.out
      obtain rfl : t = u := lst_inj h1.symm
      obtain rfl : n = a := h2.symm
      have hu : (t.toList == t.toList) = true := by simp
      have hn : ((n : Int) == (n : Int)) = true := by simp
      clear hr h1 h2
      by_cases hnm : n = m
      · subst hnm
        obtain rfl : A = B := lst_inj (HP.out.back.symm.trans HQ.out.back)
        have hAA : (A.toList == A.toList) = true := by simp
        go_wp2
        go_ret
        exact ⟨ret_bool (by simp), hb4⟩
      · have hnm' : ((n : Int) == (m : Int)) = false := beq_eq_false_iff_ne.2 (by omega)
        have hAB : (A.toList == B.toList) = false := beq_eq_false_iff_ne.2 fun e => by
          have := list_eq.1 e
          subst this
          exact hnm (HP.out.unique HQ.out).2
        clear hnm
        go_wp2
        go_ret
        exact ⟨ret_bool (by simp), hb4⟩
end Go.Proofs.Ytljpjjokfkbdcaa
