
/-
The contract of slices.Equal at rows of runs.
-/
import Derived.Test.YthebjelkmopboaaRunRow
import Derived.Laws.StructEq
namespace Go.Proofs.Ythebjelkmopboaa
open Go.RowKit

/-- Two rows of runs are the same. -/
def eqR (n m : Nat) (g h : Nat → Rm.R) : Bool := decide (n = m ∧ ∀ k, k < n → g k = h k)
theorem eqR_true {n m : Nat} {g h : Nat → Rm.R} : eqR n m g h = true ↔ (n = m ∧ ∀ k, k < n → g k = h k) := by unfold eqR; exact decide_eq_true_iff

theorem Try.depthRun : Try.prog.eqGuardType Try.prog.depth 39 = false := by kernel_rfl
theorem r_neq (a b c d : Int) (w : World) : (binOp .neq 39 (.agg #[.int .u8 a, .int .i64 b]) (.agg #[.int .u8 c, .int .i64 d])).run Try.prog w = .ok (.bool (!(a == c && b == d))) w := by
  rw [run_neq_struct, run_equalIn_agg w 9999 39 _ _ (by kernel_rfl) (by kernel_rfl)]
  have hf : (Try.prog.fieldsOf 39).toList = [{ name := "B", type := 5, offset := 0, embedded := false, tag := "", pkgPath := "", byteOffset := 0 }, { name := "N", type := 3, offset := 1, embedded := false, tag := "", pkgPath := "", byteOffset := 8 }] := by kernel_rfl
  rw [hf]
  have hz : ∀ w, (isAgg 3).run Try.prog w = .ok false w := Try.isAgg3
  have hs : ∀ w, (Go.sizeOf 3).run Try.prog w = .ok 1 w := Try.sizeOf3
  have he : ∀ (x y : Int) (w : World), (Op.equalIn 9999 3 (.int .i64 x) (.int .i64 y)).run Try.prog w = .ok (x == y) w := fun x y w => run_equalIn_int w 9998 3 .i64 .i64 x y Try.underlying3
  have hz2 : ∀ w, (isAgg 5).run Try.prog w = .ok false w := Try.isAgg5
  have hs2 : ∀ w, (Go.sizeOf 5).run Try.prog w = .ok 1 w := Try.sizeOf5
  have he2 : ∀ (x y : Int) (w : World), (Op.equalIn 9999 5 (.int .u8 x) (.int .u8 y)).run Try.prog w = .ok (x == y) w := fun x y w => run_equalIn_int w 9998 5 .u8 .u8 x y Try.underlying5
  simp [Op.eqFields, part, hz, hs, he, hz2, hs2, he2]
  by_cases h1 : a = c <;> by_cases h2 : b = d <;> simp [h1, h2]
theorem r_guard (op : BinOp) (x y : Operand) (xs ys : Array Value) (w : World) : (eqGuard op 39 x y (.agg xs) (.agg ys)).run Try.prog w = .ok () w := run_eqGuard_agg w op _ x y xs ys Try.depthRun

theorem requal_any {A1 A2 : Option Addr} {n m c1 c2 : Nat} {g1 g2 : Nat → Rm.R} {w : World} (h1 : RRow w A1 n g1) (h2 : RRow w A2 m g2) (hn : n ≤ maxLen) (hm : m ≤ maxLen) :
    Calls Try.prog 22 #[.slice A1 n c1, .slice A2 m c2] w fun e w' => e = .returned (.bool (eqR n m g1 g2)) ∧ Drew w w' := by
  unfold maxLen at hn hm
  have H1 := hid h1
  have H2 := hid h2
  clear h1 h2
  by_cases hnm : n = m
  · subst hnm
    have hnq := r_neq
    have hgd := r_guard
    go_enter Try.func22, Try.ntmps22
    go_wp2
    go_loopw [13] (fun i wr => ∃ k : Nat, k ≤ n ∧ i = .int .i64 k ∧ Hid (∀ j, j < k → g1 j = g2 j) ∧ ∃ d, wr = w.drewN d) (fun i _ => n - (intOf i).toNat)
    case atStart => exact ⟨0, Nat.zero_le _, rfl, fun j hj => by omega, 0, rfl⟩
    case round =>
      obtain ⟨k, hk, rfl, hj, d, rfl⟩ := hrel
      by_cases hlt : k < n
      · obtain ⟨b1, o1, rfl, hb1, hc1, hd1⟩ := H1.out k hlt
        obtain ⟨b2, o2, rfl, hb2, hc2, hd2⟩ := H2.out k hlt
        clear hb1 hb2
        by_cases he : g1 k = g2 k
        · rw [← he] at hc2 hd2
          have HE := hid he
          have hb1 : (((g1 k).1.toNat : Int) == ((g1 k).1.toNat : Int)) = true := by simp
          have hb2 : ((g1 k).2 == (g1 k).2) = true := by simp
          clear he
          go_wp2
          go_quiet (fail)
          go_wp2
          go_roundw
          case rel => exact ⟨k + 1, by omega, by go_num, fun j hj' => by
            rcases Nat.lt_or_ge j k with h | h
            · exact hj.out j h
            · obtain rfl : j = k := by omega
              exact HE.out, _, rfl⟩
          case measure => simp [intOf]; omega
        · have hne : ((((g1 k).1.toNat : Int) == ((g2 k).1.toNat : Int)) && ((g1 k).2 == (g2 k).2)) = false := by
            rw [Bool.eq_false_iff]
            intro h
            rw [Bool.and_eq_true, beq_iff_eq, beq_iff_eq] at h
            exact he (Prod.ext (UInt8.toNat_inj.1 (by omega)) h.2)
          have hfin : eqR n n g1 g2 = false := by
            cases hq : eqR n n g1 g2 with
            | false => rfl
            | true => exact absurd ((eqR_true.1 hq).2 k hlt) he
          have HF := hid hfin
          clear he hfin
          go_wp2
          go_quiet (fail)
          go_wp2
          go_ret
          exact ⟨ret_bool HF.out.symm, (Drew.is_ w d).more _⟩
      · have hfin : eqR n n g1 g2 = true := eqR_true.2 ⟨rfl, fun j hj' => hj.out j (by omega)⟩
        have HF := hid hfin
        clear hfin
        go_wp2
        go_ret
        exact ⟨ret_bool HF.out.symm, _, rfl⟩
  · have hfin : eqR n m g1 g2 = false := by
      cases hq : eqR n m g1 g2 with
      | false => rfl
      | true => exact absurd (eqR_true.1 hq).1 hnm
    have HF := hid hfin
    clear hfin
    have hne : ((n : Int) != (m : Int)) = true := by simp; omega
    go_enter Try.func22, Try.ntmps22
    go_wp2
    go_ret
    exact ⟨ret_bool HF.out.symm, 0, rfl⟩
/-- Two rows of runs as lists. -/
theorem eqR_list {L M : List Rm.R} : eqR L.length M.length (fun k => L.getD k (0, 0)) (fun k => M.getD k (0, 0)) = decide (L = M) := by
  rw [Bool.eq_iff_iff, eqR_true, decide_eq_true_iff]
  constructor
  · rintro ⟨h1, h2⟩
    refine List.ext_getElem h1 fun i a b => ?_
    have := h2 i a
    simpa [List.getD_eq_getElem?_getD, a, b] using this
  · rintro rfl
    exact ⟨rfl, fun k _ => rfl⟩
end Go.Proofs.Ythebjelkmopboaa
