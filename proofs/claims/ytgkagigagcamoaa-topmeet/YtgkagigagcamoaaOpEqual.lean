
/-
Ops compared: '!=' of two, slices.Equal and quilllaw.alike at rows of them.
-/
import Derived.Test.YtgkagigagcamoaaOpRow
import Derived.Test.YtgkagigagcamoaaApp
import Derived.Laws.StructEq
namespace Go.Proofs.Ytgkagigagcamoaa
open Go.RowKit

/-- Two ops are the same, as the program tells it. -/
def opB (a b s c d t : Int) : Bool := a == c && (b == d && s == t)
theorem opB_same (a b s : Int) : opB a b s a b s = true := by simp [opB]
theorem opB_iff {x y : Sh.Op} : opB x.k x.a (x.b.toNat : Int) y.k y.a (y.b.toNat : Int) = true ↔ x = y := by
  unfold opB
  rw [Bool.and_eq_true, Bool.and_eq_true, beq_iff_eq, beq_iff_eq, beq_iff_eq]
  exact ⟨fun h => Sh.Op.eq h.1 h.2.1 (UInt8.toNat_inj.1 (by omega)), fun h => by rw [h]; exact ⟨rfl, rfl, rfl⟩⟩
theorem opB_no {x y : Sh.Op} (h : x ≠ y) : opB x.k x.a (x.b.toNat : Int) y.k y.a (y.b.toNat : Int) = false := by
  rw [← Bool.not_eq_true, opB_iff]; exact h
theorem Try.depthOp : Try.prog.eqGuardType Try.prog.depth 23 = false := by kernel_rfl
theorem op_same (a b s c d t : Int) (w : World) (l : Array Value) (m : Array Value) (hl : l = #[.int .i64 a, .int .i64 b, .int .u8 s]) (hm : m = #[.int .i64 c, .int .i64 d, .int .u8 t]) : (Op.equalIn 10000 23 (.agg l) (.agg m)).run Try.prog w = .ok (opB a b s c d t) w := by
  subst hl hm
  rw [run_equalIn_agg w 9999 23 _ _ (by kernel_rfl) (by kernel_rfl)]
  have hf : (Try.prog.fieldsOf 23).toList = [{ name := "Kind", type := 3, offset := 0, embedded := false, tag := "", pkgPath := "", byteOffset := 0 }, { name := "At", type := 3, offset := 1, embedded := false, tag := "", pkgPath := "", byteOffset := 8 }, { name := "B", type := 5, offset := 2, embedded := false, tag := "", pkgPath := "", byteOffset := 16 }] := by kernel_rfl
  rw [hf]
  have hz : ∀ w, (isAgg 3).run Try.prog w = .ok false w := Try.isAgg3
  have hs : ∀ w, (Go.sizeOf 3).run Try.prog w = .ok 1 w := Try.sizeOf3
  have he : ∀ (x y : Int) (w : World), (Op.equalIn 9999 3 (.int .i64 x) (.int .i64 y)).run Try.prog w = .ok (x == y) w := fun x y w => run_equalIn_int w 9998 3 .i64 .i64 x y Try.underlying3
  have hz2 : ∀ w, (isAgg 5).run Try.prog w = .ok false w := Try.isAgg5
  have hs2 : ∀ w, (Go.sizeOf 5).run Try.prog w = .ok 1 w := Try.sizeOf5
  have he2 : ∀ (x y : Int) (w : World), (Op.equalIn 9999 5 (.int .u8 x) (.int .u8 y)).run Try.prog w = .ok (x == y) w := fun x y w => run_equalIn_int w 9998 5 .u8 .u8 x y Try.underlying5
  simp [Op.eqFields, part, hz, hs, he, hz2, hs2, he2, opB]
  by_cases h1 : a = c <;> by_cases h2 : b = d <;> by_cases h3 : s = t <;> simp [h1, h2, h3]
theorem op_neq (a b s c d t : Int) (w : World) : (binOp .neq 23 (.agg #[.int .i64 a, .int .i64 b, .int .u8 s]) (.agg #[.int .i64 c, .int .i64 d, .int .u8 t])).run Try.prog w = .ok (.bool (!(opB a b s c d t))) w := by
  rw [run_neq_struct, op_same a b s c d t w _ _ rfl rfl]
  rfl
theorem op_eql (a b s c d t : Int) (w : World) : (binOp .eql 23 (.agg #[.int .i64 a, .int .i64 b, .int .u8 s]) (.agg #[.int .i64 c, .int .i64 d, .int .u8 t])).run Try.prog w = .ok (.bool (opB a b s c d t)) w := by
  rw [run_eql_struct, op_same a b s c d t w _ _ rfl rfl]
  rfl
theorem op_guard (op : BinOp) (x y : Operand) (xs ys : Array Value) (w : World) : (eqGuard op 23 x y (.agg xs) (.agg ys)).run Try.prog w = .ok () w := run_eqGuard_agg w op _ x y xs ys Try.depthOp
/-- Two rows of ops are the same. -/
def eqO (n m : Nat) (g h : Nat → Sh.Op) : Bool := n == m && (List.range n).all fun k => opB (g k).k (g k).a ((g k).b.toNat : Int) (h k).k (h k).a ((h k).b.toNat : Int)
theorem eqO_true {n m : Nat} {g h : Nat → Sh.Op} : eqO n m g h = true ↔ (n = m ∧ ∀ k, k < n → g k = h k) := by
  unfold eqO
  rw [Bool.and_eq_true, beq_iff_eq, List.all_eq_true]
  exact ⟨fun q => ⟨q.1, fun k hk => opB_iff.1 (q.2 k (List.mem_range.2 hk))⟩, fun q => ⟨q.1, fun k hk => opB_iff.2 (q.2 k (List.mem_range.1 hk))⟩⟩
set_option maxHeartbeats 1000000 in
theorem oequal_any {A1 A2 : Option Addr} {n m c1 c2 : Nat} {g1 g2 : Nat → Sh.Op} {w : World} (h1 : OpRow w A1 n g1) (h2 : OpRow w A2 m g2) (hn : n ≤ maxLen) (hm : m ≤ maxLen) :
    Calls Try.prog 25 #[.slice A1 n c1, .slice A2 m c2] w fun e w' => e = .returned (.bool (eqO n m g1 g2)) ∧ Drew w w' := by
  unfold maxLen at hn hm
  have H1 := hid h1
  have H2 := hid h2
  clear h1 h2
  by_cases hnm : n = m
  · subst hnm
    have hnq := op_neq
    have hgd := op_guard
    go_enter Try.func25, Try.ntmps25
    go_wp2
    go_loopw [13] (fun i wr => ∃ k : Nat, k ≤ n ∧ i = .int .i64 k ∧ Hid (∀ j, j < k → g1 j = g2 j) ∧ ∃ d, wr = w.drewN d) (fun i _ => n - (intOf i).toNat)
    case atStart => exact ⟨0, Nat.zero_le _, rfl, fun j hj => by omega, 0, rfl⟩
    case round =>
      obtain ⟨k, hk, rfl, hj, d, rfl⟩ := hrel
      by_cases hlt : k < n
      · obtain ⟨b1, o1, rfl, hb1, hc1, hd1, he1⟩ := H1.out k hlt
        obtain ⟨b2, o2, rfl, hb2, hc2, hd2, he2⟩ := H2.out k hlt
        clear hb1 hb2
        by_cases he : g1 k = g2 k
        · rw [← he] at hc2 hd2 he2
          have HE := hid he
          have hb1 := opB_same (g1 k).k (g1 k).a ((g1 k).b.toNat : Int)
          clear he
          go_wp2
          go_quiet (fail)
          go_wp2
          go_roundw
          case rel => exact ⟨k + 1, by omega, by go_num, fun j hj' => by
            rcases Nat.lt_or_ge j k with h | h
            · exact hj.out j h
            · obtain rfl : j = k := by omega
              exact HE.out, _, rfl⟩
          case measure => simp [intOf]; omega
        · have hne := opB_no he
          have hfin : eqO n n g1 g2 = false := by
            cases hq : eqO n n g1 g2 with
            | false => rfl
            | true => exact absurd ((eqO_true.1 hq).2 k hlt) he
          have HF := hid hfin
          clear he hfin
          go_wp2
          go_quiet (fail)
          go_wp2
          go_ret
          exact ⟨ret_bool HF.out.symm, (Drew.is_ w d).more _⟩
      · have hfin : eqO n n g1 g2 = true := eqO_true.2 ⟨rfl, fun j hj' => hj.out j (by omega)⟩
        have HF := hid hfin
        clear hfin
        go_wp2
        go_ret
        exact ⟨ret_bool HF.out.symm, _, rfl⟩
  · have hfin : eqO n m g1 g2 = false := by
      cases hq : eqO n m g1 g2 with
      | false => rfl
      | true => exact absurd (eqO_true.1 hq).1 hnm
    have HF := hid hfin
    clear hfin
    have hne : ((n : Int) != (m : Int)) = true := by simp; omega
    go_enter Try.func25, Try.ntmps25
    go_wp2
    go_ret
    exact ⟨ret_bool HF.out.symm, 0, rfl⟩
theorem oalike_any {A1 A2 : Option Addr} {n m c1 c2 : Nat} {g1 g2 : Nat → Sh.Op} {w : World} (h1 : OpRow w A1 n g1) (h2 : OpRow w A2 m g2) (hn : n ≤ maxLen) (hm : m ≤ maxLen) :
    Calls Try.prog 19 #[.slice A1 n c1, .slice A2 m c2] w fun e w' => e = .returned (.bool (eqO n m g1 g2)) ∧ Drew w w' := by
  go_enter Try.func19, Try.ntmps19
  go_wp2_with fail
  with_reducible refine (oequal_any h1 h2 hn hm).mono ?_
  rintro e w1 ⟨rfl, hd⟩
  have HD := hid hd
  clear hd h1 h2
  go_wp2
  go_ret
  exact ⟨rfl, HD.out⟩
end Go.Proofs.Ytgkagigagcamoaa
