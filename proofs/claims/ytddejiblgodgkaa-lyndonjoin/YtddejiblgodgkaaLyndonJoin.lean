/-
The walk of quillkeep.LyndonJoin: it returns true.
-/
import Derived.Test.YtddejiblgodgkaaLyndons
namespace Go.Proofs.Ytddejiblgodgkaa
open Go.RowKit

set_option maxHeartbeats 1000000 in
theorem join_walk (a0 b0 : ByteArray) (_ : a0.size ≤ maxLen) (_ : b0.size ≤ maxLen) (w : World) :
    Calls Try.prog 6 #[.string a0, .string b0] w fun e w' => e = .returned (.bool true) ∧ Below w.heap.size w w' := by
  go_enter Try.func6, Try.ntmps6
  go_wp2_with fail
  with_reducible refine (lyndons_any _).mono ?_
  rintro e w1 ⟨rfl, hb1⟩
  go_wp2_with fail
  refine (cut_any a0 100 _ (by decide)).mono ?_
  rintro e w1' ⟨rfl, rfl⟩
  go_wp2_with fail
  refine (cut_any b0 100 _ (by decide)).mono ?_
  rintro e w1' ⟨rfl, rfl⟩
  have h1 := (cutS_size a0 100).1
  have h2 := (cutS_size b0 100).1
  generalize cutS a0 100 = a at *
  generalize cutS b0 100 = b at *
  go_wp2_with fail
  with_reducible refine (Is_ok a _ (by omega)).mono ?_
  rintro e w2 ⟨⟨x, hx, rfl⟩, hd2⟩
  have HX := hid hx
  clear hx
  go_wp2_with fail
  with_reducible refine (Is_ok b _ (by omega)).mono ?_
  rintro e w3 ⟨⟨y, hy, rfl⟩, hd3⟩
  have HY := hid hy
  have hb3 := bl_then hb1 ((hd2.trans hd3).below _)
  clear hy hb1 hd2 hd3
  go_wp2_with fail
  with_reducible refine (good_ok _ 2 2 _ (by omega) (two_zeros _ _)).mono ?_
  rintro e w4 ⟨rfl, rfl⟩
  have hb4 := bl_then hb3 (bl_new w3 (.cells #[.int .i64 0, .int .i64 0] 23))
  generalize w3.alloc (.cells #[.int .i64 0, .int .i64 0] 23) = w4 at *
  clear hb3
  have hgood : x = false ∨ y = false → Calls Try.prog 23 #[.slice (some ⟨w4.heap.size, 0, none⟩) 2 2] (w4.alloc (.cells #[.int .i64 0, .int .i64 0] 23)) fun e w' => e = .returned (.bool true) ∧ (w4.alloc (.cells #[.int .i64 0, .int .i64 0] 23)) = w' := fun _ => good_ok _ 2 2 _ (by omega) (two_zeros _ _)
  have hb5 := hid (bl_then hb4 (bl_new w4 (.cells #[.int .i64 0, .int .i64 0] 23)))
  by_cases hxt : x = true
  · subst hxt
    by_cases hyt : y = true
    · subst hyt
      clear hgood hb5
      have hab : (a ++ b).size ≤ 200 := by rw [size_app]; omega
      go_wp2_with fail
      with_reducible refine (Is_ok (a ++ b) _ hab).mono ?_
      rintro e w5 ⟨⟨z, hz, rfl⟩, hd5⟩
      have hb6 := hid (bl_then hb4 (hd5.below _))
      have hj : LynS (a ++ b) ↔ wd a < wd b := by
        unfold LynS
        rw [wd_app]
        exact Lm.lyn_join (HX.out.1 (by trivial)) (HY.out.1 (by trivial))
      rw [hj] at hz
      clear hb4 hd5 hj
      by_cases hl : wd a < wd b
      · have g1 := less_yes hl
        obtain rfl : z = true := hz.2 hl
        clear hz hl
        go_wp2
        go_ret
        exact ⟨rfl, hb6.out⟩
      · have g1 := less_no hl
        obtain rfl : z = false := by cases z; rfl; exact absurd (hz.1 rfl) hl
        clear hz hl
        go_wp2
        go_ret
        exact ⟨rfl, hb6.out⟩
    · obtain rfl : y = false := by cases y; rfl; exact absurd rfl hyt
      have HG := hid (hgood (.inr rfl))
      clear hgood hyt
      go_wp2_with fail
      with_reducible refine HG.out.mono ?_
      rintro e w5 ⟨rfl, rfl⟩
      go_wp2
      go_ret
      exact ⟨rfl, hb5.out⟩
  · obtain rfl : x = false := by cases x; rfl; exact absurd rfl hxt
    have HG := hid (hgood (.inl rfl))
    clear hgood hxt
    go_wp2_with fail
    with_reducible refine HG.out.mono ?_
    rintro e w5 ⟨rfl, rfl⟩
    go_wp2
    go_ret
    exact ⟨rfl, hb5.out⟩
end Go.Proofs.Ytddejiblgodgkaa
