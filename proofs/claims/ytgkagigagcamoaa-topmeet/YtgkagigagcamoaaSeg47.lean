/-
Several texts of this proof, one behind the other.
-/
import Derived.Test.YtgkagigagcamoaaEvRow
import Derived.Test.YtgkagigagcamoaaApp
import Derived.Laws.StructEq
import Derived.Test.YtgkagigagcamoaaMgMath

/-
Edits compared: '!=' of two, slices.Equal and quilllaw.alike at rows of them.
-/
namespace Go.Proofs.Ytgkagigagcamoaa
open Go.RowKit

/-- Two edits are the same, as the program tells it. -/
def evB (a b : Int) (s : ByteArray) (c d : Int) (t : ByteArray) : Bool := a == c && (b == d && s.toList == t.toList)
theorem evB_same (a b : Int) (s : ByteArray) : evB a b s a b s = true := by simp [evB]
theorem evB_iff {x y : Es.Ev} : evB x.a x.d x.s y.a y.d y.s = true ↔ x = y := by
  unfold evB
  rw [Bool.and_eq_true, Bool.and_eq_true, beq_iff_eq, beq_iff_eq, beq_iff_eq, list_eq]
  exact ⟨fun h => Es.Ev.eq h.1 h.2.1 h.2.2, fun h => by rw [h]; exact ⟨rfl, rfl, rfl⟩⟩
theorem evB_no {x y : Es.Ev} (h : x ≠ y) : evB x.a x.d x.s y.a y.d y.s = false := by
  rw [← Bool.not_eq_true, evB_iff]; exact h
theorem Try.depthEv : Try.prog.eqGuardType Try.prog.depth 59 = false := by kernel_rfl
theorem ev_neq (a b : Int) (s : ByteArray) (c d : Int) (t : ByteArray) (w : World) : (binOp .neq 59 (.agg #[.int .i64 a, .int .i64 b, .string s]) (.agg #[.int .i64 c, .int .i64 d, .string t])).run Try.prog w = .ok (.bool (!(evB a b s c d t))) w := by
  rw [run_neq_struct, run_equalIn_agg w 9999 59 _ _ (by kernel_rfl) (by kernel_rfl)]
  have hf : (Try.prog.fieldsOf 59).toList = [{ name := "At", type := 3, offset := 0, embedded := false, tag := "", pkgPath := "", byteOffset := 0 }, { name := "Del", type := 3, offset := 1, embedded := false, tag := "", pkgPath := "", byteOffset := 8 }, { name := "Ins", type := 9, offset := 2, embedded := false, tag := "", pkgPath := "", byteOffset := 16 }] := by kernel_rfl
  rw [hf]
  have hz : ∀ w, (isAgg 3).run Try.prog w = .ok false w := Try.isAgg3
  have hs : ∀ w, (Go.sizeOf 3).run Try.prog w = .ok 1 w := Try.sizeOf3
  have he : ∀ (x y : Int) (w : World), (Op.equalIn 9999 3 (.int .i64 x) (.int .i64 y)).run Try.prog w = .ok (x == y) w := fun x y w => run_equalIn_int w 9998 3 .i64 .i64 x y Try.underlying3
  have hz2 : ∀ w, (isAgg 9).run Try.prog w = .ok false w := Try.isAgg9
  have hs2 : ∀ w, (Go.sizeOf 9).run Try.prog w = .ok 1 w := Try.sizeOf9
  have he2 : ∀ (x y : ByteArray) (w : World), (Op.equalIn 9999 9 (.string x) (.string y)).run Try.prog w = .ok (x.toList == y.toList) w := fun x y w => run_equalIn_string w 9998 9 x y Try.underlying9
  simp [Op.eqFields, part, hz, hs, he, hz2, hs2, he2, evB]
  by_cases h1 : a = c <;> by_cases h2 : b = d <;> by_cases h3 : s.toList = t.toList <;> simp [h1, h2, h3]
theorem ev_guard (op : BinOp) (x y : Operand) (xs ys : Array Value) (w : World) : (eqGuard op 59 x y (.agg xs) (.agg ys)).run Try.prog w = .ok () w := run_eqGuard_agg w op _ x y xs ys Try.depthEv
/-- Two rows of edits are the same. -/
def eqE (n m : Nat) (g h : Nat → Es.Ev) : Bool := n == m && (List.range n).all fun k => evB (g k).a (g k).d (g k).s (h k).a (h k).d (h k).s
theorem eqE_true {n m : Nat} {g h : Nat → Es.Ev} : eqE n m g h = true ↔ (n = m ∧ ∀ k, k < n → g k = h k) := by
  unfold eqE
  rw [Bool.and_eq_true, beq_iff_eq, List.all_eq_true]
  exact ⟨fun q => ⟨q.1, fun k hk => evB_iff.1 (q.2 k (List.mem_range.2 hk))⟩, fun q => ⟨q.1, fun k hk => evB_iff.2 (q.2 k (List.mem_range.1 hk))⟩⟩
end Go.Proofs.Ytgkagigagcamoaa


/-
quillref.Clash; slices.ContainsFunc with quillref.BothOf's closure: does an edit clash with one of a row? slices.Index and slices.Contains at edits; the closure that compares places.
-/
namespace Go.Proofs.Ytgkagigagcamoaa
open Go.RowKit

/-- An edit as small numbers. -/
def Bn (x : Es.Ev) : Prop := 0 ≤ x.a ∧ x.a ≤ 1000 ∧ 0 ≤ x.d ∧ x.d ≤ 1000
theorem evB_sm (x y : Es.Ev) : evB x.a x.d x.s y.a y.d y.s = Es.sm x y := by
  rw [Bool.eq_iff_iff, evB_iff, Es.sm_iff]
theorem ev_eql (a b : Int) (s : ByteArray) (c d : Int) (t : ByteArray) (w : World) : (binOp .eql 59 (.agg #[.int .i64 a, .int .i64 b, .string s]) (.agg #[.int .i64 c, .int .i64 d, .string t])).run Try.prog w = .ok (.bool (evB a b s c d t)) w := by
  rw [run_eql_struct, run_equalIn_agg w 9999 59 _ _ (by kernel_rfl) (by kernel_rfl)]
  have hf : (Try.prog.fieldsOf 59).toList = [{ name := "At", type := 3, offset := 0, embedded := false, tag := "", pkgPath := "", byteOffset := 0 }, { name := "Del", type := 3, offset := 1, embedded := false, tag := "", pkgPath := "", byteOffset := 8 }, { name := "Ins", type := 9, offset := 2, embedded := false, tag := "", pkgPath := "", byteOffset := 16 }] := by kernel_rfl
  rw [hf]
  have hz : ∀ w, (isAgg 3).run Try.prog w = .ok false w := Try.isAgg3
  have hs : ∀ w, (Go.sizeOf 3).run Try.prog w = .ok 1 w := Try.sizeOf3
  have he : ∀ (x y : Int) (w : World), (Op.equalIn 9999 3 (.int .i64 x) (.int .i64 y)).run Try.prog w = .ok (x == y) w := fun x y w => run_equalIn_int w 9998 3 .i64 .i64 x y Try.underlying3
  have hz2 : ∀ w, (isAgg 9).run Try.prog w = .ok false w := Try.isAgg9
  have hs2 : ∀ w, (Go.sizeOf 9).run Try.prog w = .ok 1 w := Try.sizeOf9
  have he2 : ∀ (x y : ByteArray) (w : World), (Op.equalIn 9999 9 (.string x) (.string y)).run Try.prog w = .ok (x.toList == y.toList) w := fun x y w => run_equalIn_string w 9998 9 x y Try.underlying9
  simp [Op.eqFields, part, hz, hs, he, hz2, hs2, he2, evB]
  by_cases h1 : a = c <;> by_cases h2 : b = d <;> by_cases h3 : s.toList = t.toList <;> simp [h1, h2, h3]
/-- Two boxes, one behind the other. -/
theorem two_boxes (w : World) (x y : Es.Ev) (t : TypeId) : ((w.alloc (.cells #[.int .i64 x.a, .int .i64 x.d, .string x.s] t)).alloc (.cells #[.int .i64 y.a, .int .i64 y.d, .string y.s] t)).cell? ⟨w.heap.size, 0, none⟩ = some (.int .i64 x.a) ∧
    ((w.alloc (.cells #[.int .i64 x.a, .int .i64 x.d, .string x.s] t)).alloc (.cells #[.int .i64 y.a, .int .i64 y.d, .string y.s] t)).cell? ⟨w.heap.size, 1, none⟩ = some (.int .i64 x.d) ∧
    ((w.alloc (.cells #[.int .i64 x.a, .int .i64 x.d, .string x.s] t)).alloc (.cells #[.int .i64 y.a, .int .i64 y.d, .string y.s] t)).cell? ⟨w.heap.size, 2, none⟩ = some (.string x.s) ∧
    ((w.alloc (.cells #[.int .i64 x.a, .int .i64 x.d, .string x.s] t)).alloc (.cells #[.int .i64 y.a, .int .i64 y.d, .string y.s] t)).cell? ⟨w.heap.size + 1, 0, none⟩ = some (.int .i64 y.a) ∧
    ((w.alloc (.cells #[.int .i64 x.a, .int .i64 x.d, .string x.s] t)).alloc (.cells #[.int .i64 y.a, .int .i64 y.d, .string y.s] t)).cell? ⟨w.heap.size + 1, 1, none⟩ = some (.int .i64 y.d) ∧
    ((w.alloc (.cells #[.int .i64 x.a, .int .i64 x.d, .string x.s] t)).alloc (.cells #[.int .i64 y.a, .int .i64 y.d, .string y.s] t)).cell? ⟨w.heap.size + 1, 2, none⟩ = some (.string y.s) := by
  obtain ⟨a1, a2, a3⟩ := ev_new w x t
  have hlt : w.heap.size < (w.alloc (.cells #[.int .i64 x.a, .int .i64 x.d, .string x.s] t)).heap.size := by simp
  have hb := bl_new (w.alloc (.cells #[.int .i64 x.a, .int .i64 x.d, .string x.s] t)) (.cells #[.int .i64 y.a, .int .i64 y.d, .string y.s] t)
  have hy := ev_new (w.alloc (.cells #[.int .i64 x.a, .int .i64 x.d, .string x.s] t)) y t
  rw [show (w.alloc (.cells #[.int .i64 x.a, .int .i64 x.d, .string x.s] t)).heap.size = w.heap.size + 1 by simp] at hy
  exact ⟨(hb.cell (p := ⟨w.heap.size, 0, none⟩) hlt).trans a1, (hb.cell (p := ⟨w.heap.size, 1, none⟩) hlt).trans a2, (hb.cell (p := ⟨w.heap.size, 2, none⟩) hlt).trans a3, hy.1, hy.2.1, hy.2.2⟩
theorem two_below (w : World) (x y : Es.Ev) (t : TypeId) : Below w.heap.size w ((w.alloc (.cells #[.int .i64 x.a, .int .i64 x.d, .string x.s] t)).alloc (.cells #[.int .i64 y.a, .int .i64 y.d, .string y.s] t)) := bl_then (bl_new w _) (bl_new _ _)
set_option maxHeartbeats 1000000 in
theorem evIdx_any {A : Option Addr} {n c : Nat} {h : Nat → Es.Ev} (x : Es.Ev) (w : World) (hr : EvRow w A n h) (hn : n ≤ maxLen) :
    Calls Try.prog 55 #[.slice A n c, .agg #[.int .i64 x.a, .int .i64 x.d, .string x.s]] w fun e w' =>
      (∃ z : Int, e = .returned (.int .i64 z) ∧ decide (0 ≤ z) = Es.has (el h n) x) ∧ Below w.heap.size w w' := by
  have hq := ev_eql
  have hgd := ev_guard
  have H := hid (hr.keep (bl_new w (.cells #[.int .i64 x.a, .int .i64 x.d, .string x.s] 59)))
  have HX := hid (ev_new w x 59)
  have HB := hid (bl_new w (.cells #[.int .i64 x.a, .int .i64 x.d, .string x.s] 59))
  unfold maxLen at hn
  clear hr
  go_enter Try.func55, Try.ntmps55
  go_wp2
  generalize w.alloc (.cells #[.int .i64 x.a, .int .i64 x.d, .string x.s] 59) = w0 at *
  obtain ⟨x0, x1, x2⟩ := HX.out
  go_loopw [8] (fun i wr => ∃ k : Nat, k ≤ n ∧ i = .int .i64 k ∧ Hid (∀ j, j < k → h j ≠ x) ∧ ∃ d, wr = w0.drewN d) (fun i _ => n - (intOf i).toNat)
  case atStart => exact ⟨0, by omega, rfl, hid (fun j hj => by omega), 0, rfl⟩
  case round =>
    obtain ⟨k, hk, rfl, HZ, d, rfl⟩ := hrel
    by_cases hkn : k < n
    · obtain ⟨b, o, rfl, hlt, c0, c1, c2⟩ := H.out k hkn
      have hkn' : (k : Int) < (n : Int) := by omega
      clear hlt
      obtain ⟨y, hy⟩ : ∃ y, y = h k := ⟨_, rfl⟩
      have HY := hid hy
      rw [← hy] at c0 c1 c2
      clear hy
      by_cases he : x = y
      · have HF : Hid (decide (0 ≤ (k : Int)) = Es.has (el h n) x) := by
          show _ = _
          rw [decide_eq_true (by omega)]
          refine (Es.has_iff.2 ?_).symm
          rw [he, HY.out]
          unfold el
          exact List.mem_map.2 ⟨k, List.mem_range.2 hkn, rfl⟩
        subst he
        have hb1 := evB_same x.a x.d x.s
        clear HZ
        go_wp2
        go_quiet (fail)
        go_wp2
        go_ret
        exact ⟨⟨_, rfl, HF.out⟩, bl_drewN (bl_drewN HB.out _) _⟩
      · have hb1 := evB_no he
        have HZ2 : Hid (∀ j, j < k + 1 → h j ≠ x) := fun j hj => by
          by_cases hjk : j < k
          · exact HZ.out j hjk
          · obtain rfl : j = k := by omega
            rw [← HY.out]; exact fun e => he e.symm
        clear he HZ
        go_wp2
        go_quiet (fail)
        go_wp2
        go_roundw
        case measure => simp [intOf]; omega
        case rel => exact ⟨k + 1, by omega, by go_num, HZ2, _, rfl⟩
    · have hdl : decide ((k : Int) < (n : Int)) = false := decide_eq_false (by omega)
      obtain rfl : k = n := by omega
      have HF : Hid (decide (0 ≤ (-1 : Int)) = Es.has (el h k) x) := by
        show _ = _
        rw [decide_eq_false (by decide)]
        refine (Es.has_no.2 fun hm => ?_).symm
        unfold el at hm
        obtain ⟨j, hj, e⟩ := List.mem_map.1 hm
        exact HZ.out j (List.mem_range.1 hj) e
      clear HZ
      go_wp2
      go_ret
      exact ⟨⟨_, rfl, HF.out⟩, bl_drewN HB.out _⟩
theorem evHas_any {A : Option Addr} {n c : Nat} {h : Nat → Es.Ev} (x : Es.Ev) (w : World) (hr : EvRow w A n h) (hn : n ≤ maxLen) :
    Calls Try.prog 34 #[.slice A n c, .agg #[.int .i64 x.a, .int .i64 x.d, .string x.s]] w fun e w' => e = .returned (.bool (Es.has (el h n) x)) ∧ Below w.heap.size w w' := by
  have HI := hid (evIdx_any (c := c) x _ (hr.keep (bl_new w (.cells #[.int .i64 x.a, .int .i64 x.d, .string x.s] 59))) hn)
  obtain ⟨x0, x1, x2⟩ := ev_new w x 59
  have HB := hid (bl_new w (.cells #[.int .i64 x.a, .int .i64 x.d, .string x.s] 59))
  clear hr
  go_enter Try.func34, Try.ntmps34
  go_wp2_with fail
  with_reducible refine HI.out.mono ?_
  rintro e w1 ⟨⟨z, rfl, hz⟩, hb⟩
  have HZ := hid hz
  have HB2 := hid (bl_then HB.out hb)
  clear hz hb x0 x1 x2
  go_wp2
  go_ret
  exact ⟨ret_bool HZ.out, HB2.out⟩
end Go.Proofs.Ytgkagigagcamoaa


/-
The contract of slices.ContainsFunc at edits with TopMeet's test: does one of them stand in the other list, too?
-/
namespace Go.Proofs.Ytgkagigagcamoaa
open Go.RowKit

/-- A variable that holds a list of edits, and the list. -/
def BxE (w : World) (N : Nat) (B : Option Addr) (m c : Nat) (h : Nat → Es.Ev) : Prop := N < w.heap.size ∧ w.cell? ⟨N, 0, none⟩ = some (.slice B m c) ∧ EvRow w B m h
theorem BxE.keep {w w' : World} {N : Nat} {B : Option Addr} {m c : Nat} {h : Nat → Es.Ev} (H : BxE w N B m c h) (hb : Below w.heap.size w w') : BxE w' N B m c h :=
  ⟨Nat.lt_of_lt_of_le H.1 hb.size, (hb.cell (p := ⟨N, 0, none⟩) H.1).trans H.2.1, H.2.2.keep hb⟩
theorem topHas_one {N : Nat} {B : Option Addr} {m c : Nat} {h : Nat → Es.Ev} (x : Es.Ev) (w : World) (H : BxE w N B m c h) (hm : m ≤ maxLen) :
    Calls Try.prog 33 #[.agg #[.int .i64 x.a, .int .i64 x.d, .string x.s], .pointer (some ⟨N, 0, none⟩)] w fun e w' => e = .returned (.bool (Es.has (el h m) x)) ∧ Below w.heap.size w w' := by
  have hb0 := bl_new w (.cells #[.int .i64 x.a, .int .i64 x.d, .string x.s] 59)
  obtain ⟨-, hc, hr⟩ := H.keep hb0
  obtain ⟨x0, x1, x2⟩ := ev_new w x 59
  have HR := hid hr
  have HB := hid hb0
  clear H hr hb0
  go_enter Try.func33, Try.ntmps33
  go_wp2_with fail
  with_reducible refine (evHas_any (c := c) x _ HR.out hm).mono ?_
  rintro e w1 ⟨rfl, hb⟩
  have HB2 := hid (bl_then HB.out hb)
  clear hb hc x0 x1 x2 HB HR
  go_wp2
  go_ret
  exact ⟨rfl, HB2.out⟩
set_option maxHeartbeats 1000000 in
theorem topHas_index {A : Option Addr} {n c1 : Nat} {g : Nat → Es.Ev} {N : Nat} {B : Option Addr} {m c : Nat} {h : Nat → Es.Ev} (w : World) (HA : EvRow w A n g) (hn : n ≤ maxLen) (H : BxE w N B m c h) (hm : m ≤ maxLen) :
    Calls Try.prog 54 #[.slice A n c1, .func (.func 33) #[] #[.pointer (some ⟨N, 0, none⟩)]] w fun e w' =>
      ((e = .returned (.int .i64 (-1)) ∧ ∀ k, k < n → Es.has (el h m) (g k) = false) ∨ ∃ i : Nat, i < n ∧ e = .returned (.int .i64 (i : Int)) ∧ Es.has (el h m) (g i) = true) ∧ Below w.heap.size w w' := by
  have HR := hid HA
  have HX := hid H
  unfold maxLen at hn
  clear HA H
  go_enter Try.func54, Try.ntmps54
  go_wp2
  go_loopw [8] (fun i wr => ∃ k : Nat, k ≤ n ∧ i = .int .i64 (k : Int) ∧ Hid (∀ j, j < k → Es.has (el h m) (g j) = false) ∧ Hid (Below w.heap.size w wr)) (fun i _ => n - (intOf i).toNat)
  case atStart => exact ⟨0, by omega, rfl, hid (fun j hj => absurd hj (Nat.not_lt_zero _)), Below.refl _ _⟩
  case round =>
    obtain ⟨k, hk, rfl, HZ, HB⟩ := hrel
    by_cases hkm : k < n
    · obtain ⟨b, o, rfl, hlt, c0, c1, c2⟩ := (HR.out.keep HB.out) k hkm
      have hkn : (k : Int) < (n : Int) := by omega
      obtain ⟨x, hx⟩ : ∃ x, x = g k := ⟨_, rfl⟩
      rw [← hx] at c0 c1 c2
      have HGX := hid hx
      clear hx
      go_wp2_with fail
      with_reducible refine (topHas_one (c := c) x _ (HX.out.keep HB.out) hm).mono ?_
      rintro e w1 ⟨rfl, hb⟩
      have HB2 := hid (bl_then HB.out hb)
      clear hb c0 c1 c2 HB
      obtain ⟨v, hv⟩ : ∃ v, v = Es.has (el h m) x := ⟨_, rfl⟩
      rw [← hv]
      have HV := hid hv
      clear hv
      cases v with
      | true =>
        go_wp2
        go_ret
        exact ⟨.inr ⟨k, hkm, rfl, by rw [← HGX.out]; exact HV.out.symm⟩, HB2.out⟩
      | false =>
        have HZ2 : Hid (∀ j, j < k + 1 → Es.has (el h m) (g j) = false) := fun j hj => by
          by_cases hjk : j < k
          · exact HZ.out j hjk
          · obtain rfl : j = k := by omega
            rw [← HGX.out]
            exact HV.out.symm
        clear HZ HV HGX
        go_wp2
        go_roundw
        case measure => simp [intOf]; omega
        case rel => exact ⟨k + 1, by omega, by go_num, HZ2, HB2⟩
    · obtain rfl : k = n := by omega
      have hdl : decide ((k : Int) < (k : Int)) = false := decide_eq_false (by omega)
      go_wp2
      go_ret
      exact ⟨.inl ⟨rfl, HZ.out⟩, HB.out⟩
theorem topHas_any {A : Option Addr} {n c1 : Nat} {g : Nat → Es.Ev} {N : Nat} {B : Option Addr} {m c : Nat} {h : Nat → Es.Ev} (w : World) (HA : EvRow w A n g) (hn : n ≤ maxLen) (H : BxE w N B m c h) (hm : m ≤ maxLen) :
    Calls Try.prog 32 #[.slice A n c1, .func (.func 33) #[] #[.pointer (some ⟨N, 0, none⟩)]] w fun e w' =>
      (∃ v : Bool, e = .returned (.bool v) ∧ (v = false → ∀ x, x ∈ el g n → x ∉ el h m)) ∧ Below w.heap.size w w' := by
  have HR := hid HA
  have HX := hid H
  clear HA H
  go_enter Try.func32, Try.ntmps32
  go_wp2_with fail
  with_reducible refine (topHas_index (c1 := c1) (c := c) _ HR.out hn HX.out hm).mono ?_
  rintro e w1 ⟨hx, hb⟩
  have HB := hid hb
  clear hb
  rcases hx with ⟨rfl, hx⟩ | ⟨i, hi, rfl, hx⟩
  · have HV := hid hx
    clear hx
    go_wp2
    go_ret
    refine ⟨⟨false, rfl, fun _ x hx => ?_⟩, HB.out⟩
    obtain ⟨k, hk, rfl⟩ := List.getElem_of_mem hx
    rw [el_len] at hk
    have e : (el g n)[k]'(by rw [el_len]; exact hk) = g k := by simp [el]
    rw [e]
    exact Es.has_no.1 (HV.out k hk)
  · have hd : decide ((0 : Int) ≤ (i : Int)) = true := decide_eq_true (by omega)
    clear hx
    go_wp2
    go_ret
    exact ⟨⟨true, rfl, fun h => by cases h⟩, HB.out⟩
end Go.Proofs.Ytgkagigagcamoaa

