/-
The contracts of the helpers of package quillkeep: good, words, cut, Within; and of slices.Index, slices.Contains at slices of int.
-/
import Derived.Test.YtljpjjokfkbdcaaEqual
import Derived.Test.YtljpjjokfkbdcaaStr
namespace Go.Proofs.Ytljpjjokfkbdcaa
open Go.RowKit

theorem rest_mod (k : Int) (n : Nat) (hn : 0 < n) : (k.tmod n < 0 ∧ k.tmod n + n = k % n ∧ -(n : Int) < k.tmod n) ∨ (¬ k.tmod n < 0 ∧ k.tmod n = k % n) := by
  have h1 := Int.tmod_eq_emod (a := k) (b := n)
  have h2 := Int.emod_nonneg k (show (n : Int) ≠ 0 by omega)
  have h3 := Int.emod_lt_of_pos k (show (0 : Int) < n by omega)
  split at h1
  · right; omega
  · left; simp at h1; omega
theorem rest_any (k : Int) (n : Nat) (w : World) (hn : 0 < n) (hn2 : n ≤ 4611686018427387904) :
    Calls Try.prog 34 #[.int .i64 k, .int .i64 n] w fun e w' => e = .returned (.int .i64 (k % n)) ∧ w = w' := by
  have hz : ¬ n = 0 := by omega
  rcases rest_mod k n hn with ⟨h1, h2, h3⟩ | ⟨h1, h2⟩
  · have H2 := hid h2
    clear h2
    go_enter Try.func34, Try.ntmps34
    go_wp2
    go_ret
    exact ⟨ret_int H2.out, rfl⟩
  · have H2 := hid h2
    clear h2
    go_enter Try.func34, Try.ntmps34
    go_wp2
    go_ret
    exact ⟨ret_int H2.out, rfl⟩
theorem within_any (k : Int) (n : Nat) (w : World) (hn : 0 < n) (hn2 : n ≤ 4611686018427387904) :
    Calls Try.prog 18 #[.int .i64 k, .int .i64 n] w fun e w' => e = .returned (.int .i64 ((k % n).toNat : Int)) ∧ w = w' := by
  have h2 := Int.emod_nonneg k (show (n : Int) ≠ 0 by omega)
  obtain ⟨r, hr⟩ := Int.eq_ofNat_of_zero_le h2
  rw [hr, Int.toNat_natCast]
  have HR := hid hr
  clear hr h2
  go_enter Try.func18, Try.ntmps18
  go_wp2_with fail
  with_reducible refine (rest_any k n _ hn hn2).mono ?_
  rw [HR.out]
  rintro e w1 ⟨rfl, rfl⟩
  go_wp2
  go_ret
  exact ⟨rfl, rfl⟩
end Go.Proofs.Ytljpjjokfkbdcaa
