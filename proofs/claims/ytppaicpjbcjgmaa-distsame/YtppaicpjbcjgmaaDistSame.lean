
/-
quillkeep.DistSame: whatever two words: it answers true.
-/
import Derived.Test.YtppaicpjbcjgmaaDists
import Derived.Test.YtppaicpjbcjgmaaSames
namespace Go.Proofs.Ytppaicpjbcjgmaa
open Go.RowKit

theorem max_two (P : Program) (W : World) (ts : Array TypeId) (ty : TypeId) (x y m : Int) (h : m = max x y) : (Builtin.max_ ts ty #[.int .i64 x, .int .i64 y]).run P W = .ok (.int .i64 m) W := by
  have e : (if y > x then y else x) = m := by
    rw [h]
    split <;> omega
  simp [Builtin.max_, Builtin.max2, e]
set_option maxHeartbeats 1000000 in
theorem distSame_walk (a b : ByteArray) (_ : a.size ≤ maxLen) (_ : b.size ≤ maxLen) (w : World) :
    Calls Try.prog 5 #[.string a, .string b] w fun e w' => e = .returned (.bool true) ∧ Below w.heap.size w w' := by
  by_cases h : a.size ≤ 200 ∧ b.size ≤ 200
  · obtain ⟨ha, hb⟩ := h
    obtain ⟨n, hn⟩ : ∃ n, n = Sa.lc (lst a) (lst b) := ⟨_, rfl⟩
    obtain ⟨d, hd⟩ : ∃ d, d = Lev.lv (lst a) (lst b) := ⟨_, rfl⟩
    have h1 := Lev.lv_lc (lst a) (lst b)
    have h2 := Lev.lv_max (lst a) (lst b)
    have h3 := Lev.lv_len (lst a) (lst b)
    have h4 := Sa.lc_left (lst a) (lst b)
    rw [lst_len, lst_len, ← hn, ← hd] at h1
    rw [lst_len, lst_len, ← hd] at h2 h3
    rw [lst_len, ← hn] at h4
    have HN := hid hn
    have HD := hid hd
    obtain ⟨l, hl⟩ : ∃ l, l = max a.size b.size := ⟨_, rfl⟩
    have hl5 : l ≤ 200 := by omega
    obtain ⟨q, hq⟩ : ∃ q : Int, q = max ((a.size : Int) - (b.size : Int)) ((b.size : Int) - (a.size : Int)) := ⟨_, rfl⟩
    have hm1 := fun (W : World) => max_two Try.prog W #[3, 3] 3 (a.size : Int) (b.size : Int) (l : Int) (by omega)
    have hm2 := fun (W : World) => max_two Try.prog W #[3, 3] 3 ((a.size : Int) - (b.size : Int)) ((b.size : Int) - (a.size : Int)) q hq
    have hif : (if a.size < b.size then (b.size : Int) else (a.size : Int)) = (l : Int) := by split <;> omega
    have hif2 : max (a.size : Int) (b.size : Int) = (l : Int) := by omega
    have g1 : q ≤ (d : Int) := by omega
    have g2 : (l : Int) - (n : Int) ≤ (d : Int) := by omega
    have g3 : (d : Int) ≤ (l : Int) := by omega
    have g4 : (d : Int) ≤ (a.size : Int) + (b.size : Int) - 2 * (n : Int) := by omega
    have g5 : (a.size : Int) + (b.size : Int) - 2 * (n : Int) ≤ 2 * (d : Int) := by omega
    have w1 : IntKind.i64.wrap ((a.size : Int) - (b.size : Int)) = (a.size : Int) - (b.size : Int) := IntWalk.i64_in _ (by omega)
    have w2 : IntKind.i64.wrap ((b.size : Int) - (a.size : Int)) = (b.size : Int) - (a.size : Int) := IntWalk.i64_in _ (by omega)
    have w3 : IntKind.i64.wrap ((l : Int) - (n : Int)) = (l : Int) - (n : Int) := IntWalk.i64_in _ (by omega)
    have w4 : IntKind.i64.wrap ((a.size : Int) + (b.size : Int)) = (a.size : Int) + (b.size : Int) := IntWalk.i64_in _ (by omega)
    have w5 : IntKind.i64.wrap (2 * (n : Int)) = 2 * (n : Int) := IntWalk.i64_in _ (by omega)
    have w6 : IntKind.i64.wrap (2 * (d : Int)) = 2 * (d : Int) := IntWalk.i64_in _ (by omega)
    have w7 : IntKind.i64.wrap ((a.size : Int) + (b.size : Int) - 2 * (n : Int)) = (a.size : Int) + (b.size : Int) - 2 * (n : Int) := IntWalk.i64_in _ (by omega)
    clear hn hd h1 h2 h3 h4 hl hq
    go_enter Try.func5, Try.ntmps5
    go_wp2_with fail
    with_reducible refine (dists_ok _).mono ?_
    rintro e w1 ⟨rfl, hb1⟩
    have HB := hid hb1
    clear hb1
    go_wp2_with fail
    with_reducible refine (sames_ok _).mono ?_
    rintro e w2 ⟨rfl, hb2⟩
    have HB := hid (bl_then HB.out hb2)
    clear hb2
    go_wp2_with fail
    with_reducible refine (Of_ok a b _ ha hb).mono ?_
    rintro e w3 ⟨he, hb2⟩
    rw [← HD.out] at he
    subst he
    have HB := hid (bl_then HB.out hb2)
    clear hb2
    go_wp2_with fail
    with_reducible refine (Long_ok a b _ ha hb).mono ?_
    rintro e w4 ⟨he, hb2⟩
    rw [← HN.out] at he
    subst he
    have HB := hid (bl_then HB.out hb2)
    clear hb2
    go_wp2
    go_ret
    exact ⟨rfl, HB.out⟩
  · have h1 : 200 < a.size ∨ 200 < b.size := by omega
    clear h
    go_enter Try.func5, Try.ntmps5
    go_wp2_with fail
    with_reducible refine (dists_ok _).mono ?_
    rintro e w1 ⟨rfl, hb1⟩
    have HB := hid hb1
    clear hb1
    go_wp2_with fail
    with_reducible refine (sames_ok _).mono ?_
    rintro e w2 ⟨rfl, hb2⟩
    have HB := hid (bl_then HB.out hb2)
    clear hb2
    go_wp2_with fail
    with_reducible refine (Of_large a b _ h1).mono ?_
    rintro e w3 ⟨rfl, rfl⟩
    go_wp2_with fail
    with_reducible refine (Long_large a b _ h1).mono ?_
    rintro e w3 ⟨rfl, rfl⟩
    go_wp2
    go_ret
    exact ⟨rfl, HB.out⟩
end Go.Proofs.Ytppaicpjbcjgmaa
