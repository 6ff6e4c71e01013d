
/-
The contracts of package same: Check, Long, Places, Within.
-/
import Derived.Test.YtppaicpjbcjgmaaSameTab
import Derived.Test.YtppaicpjbcjgmaaTwo
namespace Go.Proofs.Ytppaicpjbcjgmaa
open Go.RowKit

theorem sameCheck_ok (a b : ByteArray) (w : World) (ha : a.size ≤ 200) (hb : b.size ≤ 200) : Calls Try.prog 25 #[.string a, .string b] w fun e w' => e = .returned (.int .i64 0) ∧ w = w' := by
  go_enter Try.func25, Try.ntmps25
  go_wp2_with fail
  with_reducible refine (check_ok a _ ha).mono ?_
  rintro e w1 ⟨rfl, rfl⟩
  go_wp2_with fail
  with_reducible refine (check_ok b _ hb).mono ?_
  rintro e w1 ⟨rfl, rfl⟩
  go_wp2
  go_ret
  exact ⟨rfl, rfl⟩
theorem sameCheck_large (a b : ByteArray) (w : World) (h : 200 < a.size ∨ 200 < b.size) : Calls Try.prog 25 #[.string a, .string b] w fun e w' => e = .returned (.int .i64 2) ∧ w = w' := by
  by_cases ha : a.size ≤ 200
  · have hb : 200 < b.size := by omega
    clear h
    go_enter Try.func25, Try.ntmps25
    go_wp2_with fail
    with_reducible refine (check_ok a _ ha).mono ?_
    rintro e w1 ⟨rfl, rfl⟩
    go_wp2_with fail
    with_reducible refine (check_large b _ hb).mono ?_
    rintro e w1 ⟨rfl, rfl⟩
    go_wp2
    go_ret
    exact ⟨rfl, rfl⟩
  · have ha' : 200 < a.size := by omega
    clear h ha
    go_enter Try.func25, Try.ntmps25
    go_wp2_with fail
    with_reducible refine (check_large a _ ha').mono ?_
    rintro e w1 ⟨rfl, rfl⟩
    go_wp2
    go_ret
    exact ⟨rfl, rfl⟩

theorem Long_ok (a b : ByteArray) (w : World) (ha : a.size ≤ 200) (hb : b.size ≤ 200) :
    Calls Try.prog 18 #[.string a, .string b] w fun e w' => e = .returned (.tuple #[.int .i64 (Sa.lc (lst a) (lst b) : Nat), .int .i64 0]) ∧ Below w.heap.size w w' := by
  go_enter Try.func18, Try.ntmps18
  go_wp2_with fail
  with_reducible refine (sameCheck_ok a b _ ha hb).mono ?_
  rintro e w1 ⟨rfl, rfl⟩
  go_wp2_with fail
  with_reducible refine (common_ok a b _ ha hb).mono ?_
  rintro e w1 ⟨rfl, hT⟩
  have c1 := hT.rowAt (i := 0) (by omega) (by omega)
  have c2 := hT.at_ (i := 0) (j := 0) (by omega) (by omega)
  rw [Sa.rest_zero] at c2
  have HB := hid hT.below
  clear hT
  have h0 : (0 : Int) < (a.size : Int) + 1 := by omega
  have h1 : (0 : Int) < (b.size : Int) + 1 := by omega
  go_wp2
  go_ret2
  exact ⟨rfl, HB.out⟩
theorem Long_large (a b : ByteArray) (w : World) (h : 200 < a.size ∨ 200 < b.size) :
    Calls Try.prog 18 #[.string a, .string b] w fun e w' => e = .returned (.tuple #[.int .i64 0, .int .i64 2]) ∧ w = w' := by
  go_enter Try.func18, Try.ntmps18
  go_wp2_with fail
  with_reducible refine (sameCheck_large a b _ h).mono ?_
  rintro e w1 ⟨rfl, rfl⟩
  go_wp2
  go_ret2
  exact ⟨rfl, rfl⟩

set_option maxHeartbeats 1000000 in
theorem within_ok (a b : ByteArray) (w : World) (ha : a.size ≤ 200) (hb : b.size ≤ 200) :
    Calls Try.prog 36 #[.string a, .string b] w fun e w' => e = .returned (.bool (Sa.lies (lst a) (lst b))) ∧ Drew w w' := by
  have hla := lst_len a
  have hlb := lst_len b
  have HLA := hid hla
  have HLB := hid hlb
  clear hla hlb
  go_enter Try.func36, Try.ntmps36
  go_wp2
  go_loopw [5, 6] (fun x y wr => ∃ k i : Nat, x = .int .i64 (k : Int) ∧ y = .int .i64 (i : Int) ∧ k ≤ a.size ∧ i ≤ b.size ∧ Hid (Sa.Gr (lst a) (lst b) k i) ∧ Hid (Drew w wr)) (fun _ y _ => b.size - (intOf y).toNat)
  case atStart => exact ⟨0, 0, rfl, rfl, by omega, by omega, Sa.Gr.start _ _, Drew.refl _⟩
  case round =>
    obtain ⟨k, i, rfl, rfl, hk, hi, HG, HD⟩ := hrel
    by_cases hib : i < b.size
    · have hib' : (i : Int) < (b.size : Int) := by omega
      by_cases hka : k < a.size
      · have hka' : (k : Int) < (a.size : Int) := by omega
        by_cases he : byt a k = byt b i
        · have heq : ((a[k].toNat : Int) == (b[i].toNat : Int)) = true := by rw [← byt_eq hka, ← byt_eq hib, he]; simp
          have HG2 := hid (HG.out.hit (by rw [HLA.out]; exact hka) (by rw [HLB.out]; exact hib) he)
          clear he HG
          go_wp2
          go_quiet (fail)
          go_wp2
          go_roundw
          case rel => exact ⟨k + 1, i + 1, by go_num, by go_num, by omega, by omega, HG2, HD.out.more _⟩
          case measure => simp [intOf]; omega
        · have heq : ((a[k].toNat : Int) == (b[i].toNat : Int)) = false := by rw [← byt_eq hka, ← byt_eq hib]; exact (byte_ne he).2
          have HG2 := hid (HG.out.miss (by rw [HLA.out]; exact hka) (by rw [HLB.out]; exact hib) he)
          clear he HG
          go_wp2
          go_quiet (fail)
          go_wp2
          go_roundw
          case rel => exact ⟨k, i + 1, by trivial, by go_num, by omega, by omega, HG2, HD.out.more _⟩
          case measure => simp [intOf]; omega
      · have hka' : decide ((k : Int) < (a.size : Int)) = false := decide_eq_false (by omega)
        have HE := HG.out.done (.inr (by rw [HLA.out]; exact hka))
        have HE2 : Hid (((k : Int) == (a.size : Int)) = Sa.lies (lst a) (lst b)) := by
          rw [← HE, HLA.out, Bool.eq_iff_iff, beq_iff_eq, decide_eq_true_iff]; exact ⟨fun h => by omega, fun h => by omega⟩
        clear HG HE
        go_wp2
        go_ret
        exact ⟨ret_bool HE2.out, HD.out⟩
    · have hib' : decide ((i : Int) < (b.size : Int)) = false := decide_eq_false (by omega)
      have HE := HG.out.done (.inl (by rw [HLB.out]; exact hib))
      have HE2 : Hid (((k : Int) == (a.size : Int)) = Sa.lies (lst a) (lst b)) := by
        rw [← HE, HLA.out, Bool.eq_iff_iff, beq_iff_eq, decide_eq_true_iff]; exact ⟨fun h => by omega, fun h => by omega⟩
      clear HG HE
      go_wp2
      go_ret
      exact ⟨ret_bool HE2.out, HD.out⟩
theorem Within_ok (a b : ByteArray) (w : World) (ha : a.size ≤ 200) (hb : b.size ≤ 200) :
    Calls Try.prog 28 #[.string a, .string b] w fun e w' => e = .returned (.tuple #[.bool (Sa.lies (lst a) (lst b)), .int .i64 0]) ∧ Drew w w' := by
  go_enter Try.func28, Try.ntmps28
  go_wp2_with fail
  with_reducible refine (sameCheck_ok a b _ ha hb).mono ?_
  rintro e w1 ⟨rfl, rfl⟩
  go_wp2_with fail
  with_reducible refine (within_ok a b _ ha hb).mono ?_
  rintro e w1 ⟨rfl, hd⟩
  go_wp2
  go_ret2
  exact ⟨rfl, hd⟩
theorem Within_large (a b : ByteArray) (w : World) (h : 200 < a.size ∨ 200 < b.size) :
    Calls Try.prog 28 #[.string a, .string b] w fun e w' => e = .returned (.tuple #[.bool false, .int .i64 2]) ∧ w = w' := by
  go_enter Try.func28, Try.ntmps28
  go_wp2_with fail
  with_reducible refine (sameCheck_large a b _ h).mono ?_
  rintro e w1 ⟨rfl, rfl⟩
  go_wp2
  go_ret2
  exact ⟨rfl, rfl⟩

/-- What Places answers: the places of a longest common subsequence, in two rows of new memory. -/
def PlPost (a b : ByteArray) (w : World) (e : Ending) (w' : World) : Prop :=
  ∃ (L M : List Nat) (A B : Option Addr) (c d : Nat), Sa.Lcs (lst a) (lst b) L M ∧ e = .returned (.tuple #[.slice A L.length c, .slice B M.length d, .int .i64 0]) ∧ IRow w' A L.length (fun k => (L.getD k 0 : Nat)) ∧ IRow w' B M.length (fun k => (M.getD k 0 : Nat)) ∧ Below w.heap.size w w'
end Go.Proofs.Ytppaicpjbcjgmaa
