/-
The walk of quilllaw.RingSays: for every k and n it returns true.
-/
import Derived.Test.YtiphclgafhbplaaLineOf
import Derived.Test.YtiphclgafhbplaaRingsOf
import Derived.Test.YtiphclgafhbplaaRErr
namespace Go.Proofs.Ytiphclgafhbplaa
open Go.RowKit

set_option maxHeartbeats 1000000 in
set_option maxRecDepth 100000 in
theorem says_err (k n : Int) (w : World) (h : ringErr k n ≠ 0) :
    Calls Try.prog 3 #[.int .i64 k, .int .i64 n] w fun e w' => e = .returned (.bool true) ∧ Below w.heap.size w w' := by
  have c1 := fun W => Rings_err k n W h
  have c2 := fun W => Words_err k n W h
  have c3 := fun W => Line_err k n W h
  have c4 := fun W => RErr_any k n W
  have c5 := fun W => RCheck_any k n W
  obtain ⟨r, hr⟩ : ∃ r, r = ringErr k n := ⟨_, rfl⟩
  rw [← hr] at h c1 c2 c3 c4 c5
  have hne : (r == 0) = false := beq_eq_false_iff_ne.2 h
  have hne2 : (r != 0) = true := bne_iff_ne.2 h
  have hemp : ByteArray.empty.toList.isEmpty = true := no_bytes rfl
  have C1 := hid c1
  have C2 := hid c2
  have C3 := hid c3
  have C4 := hid c4
  have C5 := hid c5
  clear c1 c2 c3 c4 c5 hr
  go_enter Try.func3, Try.ntmps3
  go_wp2_with fail
  with_reducible refine (C1.out _).mono ?_
  rintro e w1 ⟨rfl, rfl⟩
  go_wp2_with fail
  with_reducible refine (C2.out _).mono ?_
  rintro e w1 ⟨rfl, rfl⟩
  go_wp2_with fail
  with_reducible refine (C3.out _).mono ?_
  rintro e w1 ⟨rfl, rfl⟩
  go_wp2_with fail
  with_reducible refine (C4.out _).mono ?_
  rintro e w1 ⟨rfl, rfl⟩
  go_wp2_with fail
  with_reducible refine (C5.out _).mono ?_
  rintro e w1 ⟨rfl, rfl⟩
  go_wp2
  go_ret
  exact ⟨rfl, Below.refl _ _⟩
set_option maxHeartbeats 1000000 in
set_option maxRecDepth 100000 in
theorem says_large (k n : Nat) (w : World) (h : Rm.Ok k n) (hn : 200 < n) :
    Calls Try.prog 3 #[.int .i64 (k : Int), .int .i64 (n : Int)] w fun e w' => e = .returned (.bool true) ∧ Below w.heap.size w w' := by
  have c1 := fun W => Rings_ok k n W h
  have c2 := fun W => Words_ok k n W h
  have c3 := fun W => Line_large k n W h hn
  have c4 := fun W => RErr_any k n W
  have c5 := fun W => RCheck_any k n W
  have c6 := fun W => ringsOf_ok k n W h
  rw [ringErr_of h] at c4 c5
  obtain ⟨a, ha⟩ : ∃ a, a = Rm.rg k n (n + 1) := ⟨_, rfl⟩
  obtain ⟨b, hb⟩ : ∃ b, b = Rm.lw k n := ⟨_, rfl⟩
  rw [← ha] at c1 c6
  rw [← hb] at c2 c6
  have hemp : ByteArray.empty.toList.isEmpty = true := no_bytes rfl
  have dn : decide ((200 : Int) < (n : Int)) = true := decide_eq_true (by omega)
  have C1 := hid c1
  have C2 := hid c2
  have C3 := hid c3
  have C4 := hid c4
  have C5 := hid c5
  have C6 := hid c6
  clear c1 c2 c3 c4 c5 c6 ha hb h
  go_enter Try.func3, Try.ntmps3
  go_wp2_with fail
  with_reducible refine (C1.out _).mono ?_
  rintro e w1 ⟨rfl, b1⟩
  go_wp2_with fail
  with_reducible refine (C2.out _).mono ?_
  rintro e w2 ⟨rfl, b2⟩
  have b2 := bl_then b1 b2
  go_wp2_with fail
  with_reducible refine (C3.out _).mono ?_
  rintro e w3 ⟨rfl, rfl⟩
  go_wp2_with fail
  with_reducible refine (C4.out _).mono ?_
  rintro e w3 ⟨rfl, rfl⟩
  go_wp2_with fail
  with_reducible refine (C5.out _).mono ?_
  rintro e w3 ⟨rfl, rfl⟩
  go_wp2_with fail
  with_reducible refine (C6.out _).mono ?_
  rintro e w4 ⟨rfl, b4⟩
  have HB := hid (bl_then b2 b4)
  clear b1 b2 b4
  go_wp2
  go_ret
  exact ⟨rfl, HB.out⟩
set_option maxHeartbeats 1000000 in
set_option maxRecDepth 100000 in
theorem says_ok (k n : Nat) (w : World) (h : Rm.Ok k n) (hn : n ≤ 200) :
    Calls Try.prog 3 #[.int .i64 (k : Int), .int .i64 (n : Int)] w fun e w' => e = .returned (.bool true) ∧ Below w.heap.size w w' := by
  have c1 := fun W => Rings_ok k n W h
  have c2 := fun W => Words_ok k n W h
  have c3 := fun W => Line_ok k n W h hn
  have c4 := fun W => RErr_any k n W
  have c5 := fun W => RCheck_any k n W
  have c6 := fun W => ringsOf_ok k n W h
  have c7 := fun W => lineOf_ok k n W h
  rw [ringErr_of h] at c4 c5
  obtain ⟨a, ha⟩ : ∃ a, a = Rm.rg k n (n + 1) := ⟨_, rfl⟩
  obtain ⟨b, hb⟩ : ∃ b, b = Rm.lw k n := ⟨_, rfl⟩
  obtain ⟨s, hs⟩ : ∃ s, s = sd (Rm.lineD k n) := ⟨_, rfl⟩
  rw [← ha] at c1 c6
  rw [← hb] at c2 c6
  rw [← hs] at c3 c7
  have dn : decide ((200 : Int) < (n : Int)) = false := decide_eq_false (by omega)
  have hss : (s.toList == s.toList) = true := same_yes rfl
  have C1 := hid c1
  have C2 := hid c2
  have C3 := hid c3
  have C4 := hid c4
  have C5 := hid c5
  have C6 := hid c6
  have C7 := hid c7
  clear c1 c2 c3 c4 c5 c6 c7 ha hb hs h
  go_enter Try.func3, Try.ntmps3
  go_wp2_with fail
  with_reducible refine (C1.out _).mono ?_
  rintro e w1 ⟨rfl, b1⟩
  go_wp2_with fail
  with_reducible refine (C2.out _).mono ?_
  rintro e w2 ⟨rfl, b2⟩
  have b2 := bl_then b1 b2
  go_wp2_with fail
  with_reducible refine (C3.out _).mono ?_
  rintro e w3 ⟨rfl, b3⟩
  have b3 := bl_then b2 b3
  go_wp2_with fail
  with_reducible refine (C4.out _).mono ?_
  rintro e w4 ⟨rfl, rfl⟩
  go_wp2_with fail
  with_reducible refine (C5.out _).mono ?_
  rintro e w4 ⟨rfl, rfl⟩
  go_wp2_with fail
  with_reducible refine (C6.out _).mono ?_
  rintro e w4 ⟨rfl, b4⟩
  have b4 := bl_then b3 b4
  go_wp2_with fail
  with_reducible refine (C7.out _).mono ?_
  rintro e w5 ⟨rfl, b5⟩
  have HB := hid (bl_then b4 b5)
  clear b1 b2 b3 b4 b5
  go_wp2
  go_ret
  exact ⟨rfl, HB.out⟩
theorem says_walk (k n : Int) (_ : (Lit.int .i64 k).wf = true) (_ : (Lit.int .i64 n).wf = true) (w : World) :
    Calls Try.prog 3 #[.int .i64 k, .int .i64 n] w fun e w' => e = .returned (.bool true) ∧ Below w.heap.size w w' := by
  by_cases h : ringErr k n = 0
  · obtain ⟨K, N, rfl, rfl, hO⟩ := ringErr_ok h
    by_cases hn : N ≤ 200
    · exact says_ok K N w hO hn
    · exact says_large K N w hO (by omega)
  · exact says_err k n w h
end Go.Proofs.Ytiphclgafhbplaa
