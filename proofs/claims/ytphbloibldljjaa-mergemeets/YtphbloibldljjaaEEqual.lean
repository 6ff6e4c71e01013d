
/-
Edits compared: '!=' of two, slices.Equal and quilllaw.alike at rows of them.
-/
import Derived.Test.YtphbloibldljjaaEvRow
import Derived.Test.YtphbloibldljjaaApp
import Derived.Laws.StructEq
namespace Go.Proofs.Ytphbloibldljjaa
open Go.RowKit

/-- Two edits are the same, as the program tells it. -/
def evB (a b : Int) (s : ByteArray) (c d : Int) (t : ByteArray) : Bool := a == c && (b == d && s.toList == t.toList)
theorem evB_same (a b : Int) (s : ByteArray) : evB a b s a b s = true := by simp [evB]
theorem evB_iff {x y : Es.Ev} : evB x.a x.d x.s y.a y.d y.s = true ↔ x = y := by
  unfold evB
  rw [Bool.and_eq_true, Bool.and_eq_true, beq_iff_eq, beq_iff_eq, beq_iff_eq, list_eq]
  exact ⟨fun h => Es.Ev.eq h.1 h.2.1 h.2.2, fun h => by rw [h]; exact ⟨rfl, rfl, rfl⟩⟩
theorem evB_no {x y : Es.Ev} (h : x ≠ y) : evB x.a x.d x.s y.a y.d y.s = false := by
  rw [← Bool.not_eq_true, evB_iff]; exact h
theorem Try.depthEv : Try.prog.eqGuardType Try.prog.depth 30 = false := by kernel_rfl
theorem ev_neq (a b : Int) (s : ByteArray) (c d : Int) (t : ByteArray) (w : World) : (binOp .neq 30 (.agg #[.int .i64 a, .int .i64 b, .string s]) (.agg #[.int .i64 c, .int .i64 d, .string t])).run Try.prog w = .ok (.bool (!(evB a b s c d t))) w := by
  rw [run_neq_struct, run_equalIn_agg w 9999 30 _ _ (by kernel_rfl) (by kernel_rfl)]
  have hf : (Try.prog.fieldsOf 30).toList = [{ name := "At", type := 3, offset := 0, embedded := false, tag := "", pkgPath := "", byteOffset := 0 }, { name := "Del", type := 3, offset := 1, embedded := false, tag := "", pkgPath := "", byteOffset := 8 }, { name := "Ins", type := 9, offset := 2, embedded := false, tag := "", pkgPath := "", byteOffset := 16 }] := by kernel_rfl
  rw [hf]
  have hz : ∀ w, (isAgg 3).run Try.prog w = .ok false w := Try.isAgg3
  have hs : ∀ w, (Go.sizeOf 3).run Try.prog w = .ok 1 w := Try.sizeOf3
  have he : ∀ (x y : Int) (w : World), (Op.equalIn 9999 3 (.int .i64 x) (.int .i64 y)).run Try.prog w = .ok (x == y) w := fun x y w => run_equalIn_int w 9998 3 .i64 .i64 x y Try.underlying3
  have hz2 : ∀ w, (isAgg 9).run Try.prog w = .ok false w := Try.isAgg9
  have hs2 : ∀ w, (Go.sizeOf 9).run Try.prog w = .ok 1 w := Try.sizeOf9
  have he2 : ∀ (x y : ByteArray) (w : World), (Op.equalIn 9999 9 (.string x) (.string y)).run Try.prog w = .ok (x.toList == y.toList) w := fun x y w => run_equalIn_string w 9998 9 x y Try.underlying9
  simp [Op.eqFields, part, hz, hs, he, hz2, hs2, he2, evB]
  by_cases h1 : a = c <;> by_cases h2 : b = d <;> by_cases h3 : s.toList = t.toList <;> simp [h1, h2, h3]
theorem ev_guard (op : BinOp) (x y : Operand) (xs ys : Array Value) (w : World) : (eqGuard op 30 x y (.agg xs) (.agg ys)).run Try.prog w = .ok () w := run_eqGuard_agg w op _ x y xs ys Try.depthEv
/-- Two rows of edits are the same. -/
def eqE (n m : Nat) (g h : Nat → Es.Ev) : Bool := n == m && (List.range n).all fun k => evB (g k).a (g k).d (g k).s (h k).a (h k).d (h k).s
theorem eqE_true {n m : Nat} {g h : Nat → Es.Ev} : eqE n m g h = true ↔ (n = m ∧ ∀ k, k < n → g k = h k) := by
  unfold eqE
  rw [Bool.and_eq_true, beq_iff_eq, List.all_eq_true]
  exact ⟨fun q => ⟨q.1, fun k hk => evB_iff.1 (q.2 k (List.mem_range.2 hk))⟩, fun q => ⟨q.1, fun k hk => evB_iff.2 (q.2 k (List.mem_range.1 hk))⟩⟩
set_option maxHeartbeats 1000000 in
theorem eequal_any {A1 A2 : Option Addr} {n m c1 c2 : Nat} {g1 g2 : Nat → Es.Ev} {w : World} (h1 : EvRow w A1 n g1) (h2 : EvRow w A2 m g2) (hn : n ≤ maxLen) (hm : m ≤ maxLen) :
    Calls Try.prog 18 #[.slice A1 n c1, .slice A2 m c2] w fun e w' => e = .returned (.bool (eqE n m g1 g2)) ∧ Drew w w' := by
  unfold maxLen at hn hm
  have H1 := hid h1
  have H2 := hid h2
  clear h1 h2
  by_cases hnm : n = m
  · subst hnm
    have hnq := ev_neq
    have hgd := ev_guard
    go_enter Try.func18, Try.ntmps18
    go_wp2
    go_loopw [13] (fun i wr => ∃ k : Nat, k ≤ n ∧ i = .int .i64 k ∧ Hid (∀ j, j < k → g1 j = g2 j) ∧ ∃ d, wr = w.drewN d) (fun i _ => n - (intOf i).toNat)
    case atStart => exact ⟨0, Nat.zero_le _, rfl, fun j hj => by omega, 0, rfl⟩
    case round =>
      obtain ⟨k, hk, rfl, hj, d, rfl⟩ := hrel
      by_cases hlt : k < n
      · obtain ⟨b1, o1, rfl, hb1, hc1, hd1, he1⟩ := H1.out k hlt
        obtain ⟨b2, o2, rfl, hb2, hc2, hd2, he2⟩ := H2.out k hlt
        clear hb1 hb2
        by_cases he : g1 k = g2 k
        · rw [← he] at hc2 hd2 he2
          have HE := hid he
          have hb1 := evB_same (g1 k).a (g1 k).d (g1 k).s
          clear he
          go_wp2
          go_quiet (fail)
          go_wp2
          go_roundw
          case rel => exact ⟨k + 1, by omega, by go_num, fun j hj' => by
            rcases Nat.lt_or_ge j k with h | h
            · exact hj.out j h
            · obtain rfl : j = k := by omega
              exact HE.out, _, rfl⟩
          case measure => simp [intOf]; omega
        · have hne := evB_no he
          have hfin : eqE n n g1 g2 = false := by
            cases hq : eqE n n g1 g2 with
            | false => rfl
            | true => exact absurd ((eqE_true.1 hq).2 k hlt) he
          have HF := hid hfin
          clear he hfin
          go_wp2
          go_quiet (fail)
          go_wp2
          go_ret
          exact ⟨ret_bool HF.out.symm, (Drew.is_ w d).more _⟩
      · have hfin : eqE n n g1 g2 = true := eqE_true.2 ⟨rfl, fun j hj' => hj.out j (by omega)⟩
        have HF := hid hfin
        clear hfin
        go_wp2
        go_ret
        exact ⟨ret_bool HF.out.symm, _, rfl⟩
  · have hfin : eqE n m g1 g2 = false := by
      cases hq : eqE n m g1 g2 with
      | false => rfl
      | true => exact absurd (eqE_true.1 hq).1 hnm
    have HF := hid hfin
    clear hfin
    have hne : ((n : Int) != (m : Int)) = true := by simp; omega
    go_enter Try.func18, Try.ntmps18
    go_wp2
    go_ret
    exact ⟨ret_bool HF.out.symm, 0, rfl⟩
theorem ealike_any {A1 A2 : Option Addr} {n m c1 c2 : Nat} {g1 g2 : Nat → Es.Ev} {w : World} (h1 : EvRow w A1 n g1) (h2 : EvRow w A2 m g2) (hn : n ≤ maxLen) (hm : m ≤ maxLen) :
    Calls Try.prog 12 #[.slice A1 n c1, .slice A2 m c2] w fun e w' => e = .returned (.bool (eqE n m g1 g2)) ∧ Drew w w' := by
  go_enter Try.func12, Try.ntmps12
  go_wp2_with fail
  with_reducible refine (eequal_any h1 h2 hn hm).mono ?_
  rintro e w1 ⟨rfl, hd⟩
  have HD := hid hd
  clear hd h1 h2
  go_wp2
  go_ret
  exact ⟨rfl, HD.out⟩
end Go.Proofs.Ytphbloibldljjaa
