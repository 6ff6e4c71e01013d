
/-
quilltop.cut: a text's first bytes.
-/
import Derived.Test.YtgkagigagcamoaaLst
namespace Go.Proofs.Ytgkagigagcamoaa
open Go.RowKit
theorem whole_ext (s : ByteArray) : s.extract 0 s.size = s := lst_inj_ (by rw [lst_mid, List.drop_zero, Nat.sub_zero, List.take_of_length_le (by rw [lst_len]; exact Nat.le_refl _)])
theorem topCut_any (s : ByteArray) (n : Nat) (w : World) (hn : n ≤ 1000) : Calls Try.prog 29 #[.string s, .int .i64 n] w fun e w' => e = .returned (.string (s.extract 0 (min s.size n))) ∧ w = w' := by
  by_cases h : s.size ≤ n
  · rw [Nat.min_eq_left h, whole_ext]
    go_enter Try.func29, Try.ntmps29
    go_wp2
    go_ret
    exact ⟨rfl, rfl⟩
  · rw [Nat.min_eq_right (by omega)]
    go_enter Try.func29, Try.ntmps29
    go_wp2
    go_ret
    exact ⟨rfl, rfl⟩
end Go.Proofs.Ytgkagigagcamoaa
