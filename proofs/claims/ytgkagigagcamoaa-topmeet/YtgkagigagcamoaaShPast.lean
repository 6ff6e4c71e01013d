
/-
The contract of shift.Past.
-/
import Derived.Test.YtgkagigagcamoaaShCk
import Derived.Test.YtgkagigagcamoaaOpWr
import Derived.Laws.ResultCell
import Derived.Laws.Rows
namespace Go.Proofs.Ytgkagigagcamoaa
open Go.RowKit

/-- A struct variable as a whole: what a store of an op makes of its block. -/
theorem putO_blk {w : World} {P : Nat} {cs : Array Value} {t : TypeId} (h : w.heap[P]? = some (.cells cs t)) (hc : cs.size = 3) (x : Sh.Op) :
    (putO w P 0 x).heap[P]? = some (.cells #[.int .i64 x.k, .int .i64 x.a, .int .u8 (x.b.toNat : Int)] t) := by
  have h1 : ∀ (w : World) (cs : Array Value) (j : Nat) (v : Value), w.heap[P]? = some (.cells cs t) → (w.setCell ⟨P, j, none⟩ v).heap[P]? = some (.cells (cs.setIfInBounds j v) t) := fun w cs j v h => by
    unfold World.setCell
    simp only
    rw [Array.getElem?_modify, if_pos rfl, h]
    rfl
  unfold putO
  rw [h1 _ _ 2 _ (h1 _ _ 1 _ (h1 _ _ 0 _ h))]
  obtain ⟨l⟩ := cs
  match l, hc with
  | [a, b, c], _ => rfl
theorem res_op_tmp {P : Program} {fn : Func} {p u : Tmp} {ty : TypeId} (h : fn.results = #[.cell p ty, .tmp u]) (tmps : Array Value) (w : World) (g : Nat) (t : TypeId) (cs : Array Value) (fr : Nat × Nat) (d : TypeDesc)
    (hp : tmps.getD p undef = .pointer (some ⟨g, 0, none⟩)) (hg : w.heap[g]? = some (.cells cs t fr))
    (hu : P.underlying ty = some d) (hd : (match d with | .struct _ | .array _ _ => true | _ => false) = true) (hi : (P.info? ty).map (·.size) = some cs.size) (z : Value) (hz : tmps.getD u undef = z) :
    (results fn tmps).run P w = .ok (.tuple #[.agg cs, z]) w := by
  rw [results_cell_tmp h, hp, hz]
  simp [asAddr, Result.andThen, run_loadVar_row w g t ty cs fr d hg hu hd hi]
theorem op_bound {n : Int} {x : Sh.Op} (h : Sh.opErr n x = 0) : -1000000 ≤ x.a ∧ x.a ≤ 1000000 := by
  obtain ⟨⟨h0, h1⟩, h2, _⟩ := Sh.err_zero.1 h
  rcases h1 with ⟨a1, a2, a3⟩ | ⟨a1, a2, a3, _⟩ | ⟨a1, a2, _⟩ <;> omega
set_option maxRecDepth 100000 in
set_option maxHeartbeats 4000000 in
theorem Past_any (n : Int) (x y : Sh.Op) (f : Bool) (w : World) (hn : N64 n) (hx : OpWf x) (hy : OpWf y) :
    Calls Try.prog 12 #[.int .i64 n, .agg #[.int .i64 x.k, .int .i64 x.a, .int .u8 (x.b.toNat : Int)], .agg #[.int .i64 y.k, .int .i64 y.a, .int .u8 (y.b.toNat : Int)], .bool f] w fun e w' =>
      ∃ (z : Sh.Op) (e0 : Int), e = .returned (.tuple #[.agg #[.int .i64 z.k, .int .i64 z.a, .int .u8 (z.b.toNat : Int)], .int .i64 e0]) ∧ PastIs n x y f z e0 ∧ Below w.heap.size w w' := by
  have HX := hid hx
  have HY := hid hy
  have HN := hid hn
  clear hx hy hn
  obtain ⟨W, hW⟩ : ∃ W, W = ((w.alloc (.cells #[.int .i64 x.k, .int .i64 x.a, .int .u8 (x.b.toNat : Int)] 23)).alloc (.cells #[.int .i64 y.k, .int .i64 y.a, .int .u8 (y.b.toNat : Int)] 23)).alloc (.cells #[.int .i64 0, .int .i64 0, .int .u8 0] 23) := ⟨_, rfl⟩
  have sz1 : (w.alloc (.cells #[.int .i64 x.k, .int .i64 x.a, .int .u8 (x.b.toNat : Int)] 23)).heap.size = w.heap.size + 1 := by simp
  have sz2 : ((w.alloc (.cells #[.int .i64 x.k, .int .i64 x.a, .int .u8 (x.b.toNat : Int)] 23)).alloc (.cells #[.int .i64 y.k, .int .i64 y.a, .int .u8 (y.b.toNat : Int)] 23)).heap.size = w.heap.size + 1 + 1 := by simp
  have HX3 : Hid (Op3 W w.heap.size 0 x) := by
    rw [hW]
    exact ((Op3.new w x 23 _ rfl).block (Below.heap_alloc _ _ _ (by omega))).block (Below.heap_alloc _ _ _ (by omega))
  have HY3 : Hid (Op3 W (w.heap.size + 1) 0 y) := by
    rw [hW]
    exact (Op3.new (w.alloc (.cells #[.int .i64 x.k, .int .i64 x.a, .int .u8 (x.b.toNat : Int)] 23)) y 23 _ sz1).block (Below.heap_alloc _ _ _ (by omega))
  have HR : Hid (W.heap[w.heap.size + 1 + 1]? = some (.cells #[.int .i64 0, .int .i64 0, .int .u8 0] 23)) := by
    rw [hW]; exact res_3rd _ _ _ _
  have HBW : Hid (Below w.heap.size w W) := by
    rw [hW]; exact bl_then (bl_then (bl_new w _) (bl_new _ _)) (bl_new _ _)
  have HSZ : Hid (w.heap.size + 1 + 1 < W.heap.size) := by
    rw [hW]; show _ < _; simp
  clear sz1 sz2
  go_enter Try.func12, Try.ntmps12
  obtain ⟨b0, b1, b2, -⟩ := HX3.out
  rw [hW] at b0 b1 b2
  go_wp2_with fail
  rw [← hW]
  clear b0 b1 b2
  with_reducible refine (SCheck_any n x W HN.out HX.out).mono ?_
  rintro e w1 ⟨rfl, hb1⟩
  have HX4 := hid (HX3.out.block (hb1.block _ (by have := HSZ.out; omega)))
  have HY4 := hid (HY3.out.block (hb1.block _ (by have := HSZ.out; omega)))
  have HR4 : Hid (w1.heap[w.heap.size + 1 + 1]? = some (.cells #[.int .i64 0, .int .i64 0, .int .u8 0] 23)) := (hb1.block _ HSZ.out).trans HR.out
  have HB4 := hid (bl_then HBW.out hb1)
  have HS4 := hid (Nat.lt_of_lt_of_le HSZ.out hb1.size)
  clear hb1 HX3 HY3 HR HBW HSZ hW
  by_cases h1 : Sh.opErr n x = 0
  · have HE1 := hid h1
    rw [h1]
    obtain ⟨b0, b1, b2, -⟩ := HY4.out
    clear h1
    go_wp2_with fail
    with_reducible refine (SCheck_any n y w1 HN.out HY.out).mono ?_
    rintro e w2 ⟨rfl, hb2⟩
    have HX5 := hid (HX4.out.block (hb2.block _ (by have := HS4.out; omega)))
    have HY5 := hid (HY4.out.block (hb2.block _ (by have := HS4.out; omega)))
    have HR5 : Hid (w2.heap[w.heap.size + 1 + 1]? = some (.cells #[.int .i64 0, .int .i64 0, .int .u8 0] 23)) := (hb2.block _ HS4.out).trans HR4.out
    have HB5 := hid (bl_then HB4.out hb2)
    have HS5 := hid (Nat.lt_of_lt_of_le HS4.out hb2.size)
    clear hb2 HX4 HY4 HR4 HB4 HS4 b0 b1 b2
    have hrf : ∀ j, w2.frozen? ⟨w.heap.size + 1 + 1, j, none⟩ = false := fun j => by
      unfold World.frozen?
      rw [HR5.out]
      simp
    have f0 := hrf 0
    have f1 := hrf 1
    have f2 := hrf 2
    by_cases h2 : Sh.opErr n y = 0
    · have HE2 := hid h2
      rw [h2]
      have hxs := op_bound HE1.out
      obtain ⟨a0, a1, a2, -⟩ := HX5.out
      obtain ⟨b0, b1, b2, -⟩ := HY5.out
      clear h2
      go_wp2_with fail
      with_reducible refine (spast_any x y f w2 hxs (kd_ok HE2.out)).mono ?_
      rintro e w3 ⟨rfl, hb3⟩
      clear a0 a1 a2 b0 b1 b2 f0 f1 f2 hrf
      have HR6 : Hid (w3.heap[w.heap.size + 1 + 1]? = some (.cells #[.int .i64 0, .int .i64 0, .int .u8 0] 23)) := (hb3.block _ HS5.out).trans HR5.out
      have HB6 := hid (bl_then HB5.out hb3)
      have hrf : ∀ j, w3.frozen? ⟨w.heap.size + 1 + 1, j, none⟩ = false := fun j => by
        unfold World.frozen?
        rw [HR6.out]
        simp
      have f0 := hrf 0
      have f1 := hrf 1
      have f2 := hrf 2
      have d0 : w3.cell? ⟨w.heap.size + 1 + 1, 0, none⟩ = some (.int .i64 0) := cell_of_row _ _ _ _ _ _ HR6.out
      have d1 : w3.cell? ⟨w.heap.size + 1 + 1, 1, none⟩ = some (.int .i64 0) := cell_of_row _ _ _ _ _ _ HR6.out
      have d2 : w3.cell? ⟨w.heap.size + 1 + 1, 2, none⟩ = some (.int .u8 0) := cell_of_row _ _ _ _ _ _ HR6.out
      obtain ⟨z, hz⟩ : ∃ z, z = Sh.past x y f := ⟨_, rfl⟩
      rw [← hz]
      have HZ := hid hz
      clear hz
      unfold opV
      go_wp2
      refine bodyPost_ret (res_op_tmp rfl _ _ (w.heap.size + 1 + 1) 23 _ (0, 0) _ rfl (putO_blk HR6.out rfl z) Try.underlying23 rfl (by kernel_rfl) _ rfl) rfl ?_
      refine ⟨z, 0, rfl, ⟨(past_zero.2 ⟨HE1.out, HE2.out⟩).symm, HZ.out⟩, ?_⟩
      exact bl_putO (p := 0) (x := z) HB6.out (by omega)
    · have HE2 := hid h2
      have h2' : (Sh.opErr n y != 0) = true := bne_iff_ne.2 h2
      have h2'' : (Sh.opErr n y == 0) = false := beq_eq_false_iff_ne.2 h2
      have d0 : w2.cell? ⟨w.heap.size + 1 + 1, 0, none⟩ = some (.int .i64 0) := cell_of_row _ _ _ _ _ _ HR5.out
      have d1 : w2.cell? ⟨w.heap.size + 1 + 1, 1, none⟩ = some (.int .i64 0) := cell_of_row _ _ _ _ _ _ HR5.out
      have d2 : w2.cell? ⟨w.heap.size + 1 + 1, 2, none⟩ = some (.int .u8 0) := cell_of_row _ _ _ _ _ _ HR5.out
      clear h2 hrf
      go_wp2
      refine bodyPost_ret (res_op_tmp rfl _ _ (w.heap.size + 1 + 1) 23 _ (0, 0) _ rfl (putO_blk HR5.out rfl Sh.zero) Try.underlying23 rfl (by kernel_rfl) _ rfl) rfl ?_
      refine ⟨Sh.zero, _, rfl, ?_, bl_putO (p := 0) (x := Sh.zero) HB5.out (by omega)⟩
      have e : pastErr n x y = Sh.opErr n y := by unfold pastErr; rw [if_pos HE1.out]
      exact ⟨e.symm, (if_neg HE2.out).symm⟩
  · have HE1 := hid h1
    have h1' : (Sh.opErr n x != 0) = true := bne_iff_ne.2 h1
    have h1'' : (Sh.opErr n x == 0) = false := beq_eq_false_iff_ne.2 h1
    have hrf : ∀ j, w1.frozen? ⟨w.heap.size + 1 + 1, j, none⟩ = false := fun j => by
      unfold World.frozen?
      rw [HR4.out]
      simp
    have f0 := hrf 0
    have f1 := hrf 1
    have f2 := hrf 2
    have d0 : w1.cell? ⟨w.heap.size + 1 + 1, 0, none⟩ = some (.int .i64 0) := cell_of_row _ _ _ _ _ _ HR4.out
    have d1 : w1.cell? ⟨w.heap.size + 1 + 1, 1, none⟩ = some (.int .i64 0) := cell_of_row _ _ _ _ _ _ HR4.out
    have d2 : w1.cell? ⟨w.heap.size + 1 + 1, 2, none⟩ = some (.int .u8 0) := cell_of_row _ _ _ _ _ _ HR4.out
    clear h1 hrf
    go_wp2
    refine bodyPost_ret (res_op_tmp rfl _ _ (w.heap.size + 1 + 1) 23 _ (0, 0) _ rfl (putO_blk HR4.out rfl Sh.zero) Try.underlying23 rfl (by kernel_rfl) _ rfl) rfl ?_
    refine ⟨Sh.zero, _, rfl, ?_, bl_putO (p := 0) (x := Sh.zero) HB4.out (by omega)⟩
    have e : pastErr n x y = Sh.opErr n x := by unfold pastErr; rw [if_neg HE1.out]
    exact ⟨e.symm, (if_neg HE1.out).symm⟩
end Go.Proofs.Ytgkagigagcamoaa
