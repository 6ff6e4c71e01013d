
/-
The contract of quillkeep.spoil at a row of ops of the call's own: only that block turns. A clone of a long row of ops.
-/
import Derived.Test.YtgkagigagcamoaaCloneO
namespace Go.Proofs.Ytgkagigagcamoaa
open Go.RowKit

theorem so_refl (w : World) (o : Option Nat) : w.grownBy w o := ⟨rfl, rfl, rfl, Nat.le_refl _, fun _ _ _ => rfl⟩
theorem so_set {w a : World} {g i : Nat} {v : Value} (h : w.grownBy a (some g)) : w.grownBy (a.setCell ⟨g, i, none⟩ v) (some g) :=
  ⟨h.os, h.tape, h.output, by simpa using h.size, fun x hx hne => (Below.heap_setCell a _ v x (fun e => hne (by rw [e]))).trans (h.block x hx hne)⟩
theorem so_new {w : World} (o : Obj) (g : Option Nat) : w.grownBy (w.alloc o) g :=
  ⟨rfl, rfl, rfl, by simp, fun x hx _ => (bl_new w o).block x hx⟩
theorem so_below {w w' : World} (h : Below w.heap.size w w') (g : Option Nat) : w.grownBy w' g := ⟨h.os, h.tape, h.output, h.size, fun x hx _ => h.block x hx⟩
/-- A block of m cells that may be written. -/
def BlkO (w : World) (B m : Nat) (t : TypeId) : Prop := ∃ c : Array Value, w.heap[B]? = some (.cells c t (0, 0)) ∧ c.size = m
theorem BlkO.cell {w : World} {B m i : Nat} {t : TypeId} (h : BlkO w B m t) (hi : i < m) : (∃ v, w.cell? ⟨B, i, none⟩ = some v) ∧ w.frozen? ⟨B, i, none⟩ = false := by
  obtain ⟨c, h1, h2⟩ := h
  have hr : w.rowIs B t m (fun k => c.getD k default) := ⟨c, h1, h2, fun k hk => by simp [show k < c.size by omega]⟩
  exact ⟨⟨_, hr.cell hi⟩, hr.frozen i⟩
theorem BlkO.set {w : World} {B m : Nat} {t : TypeId} (h : BlkO w B m t) (i : Nat) (v : Value) : BlkO (w.setCell ⟨B, i, none⟩ v) B m t := by
  obtain ⟨c, h1, h2⟩ := h
  have hr : w.rowIs B t m (fun k => c.getD k default) := ⟨c, h1, h2, fun k hk => by simp [show k < c.size by omega]⟩
  obtain ⟨c', g1, g2, _⟩ := World.rowIs.set hr i v
  exact ⟨c', g1, g2⟩
theorem BlkO.lt {w : World} {B m : Nat} {t : TypeId} (h : BlkO w B m t) : B < w.heap.size := by
  obtain ⟨c, h1, _⟩ := h
  exact (Array.getElem?_eq_some_iff.1 h1).1
theorem BlkO.of_block {w w' : World} {B m : Nat} {t : TypeId} (h : BlkO w B m t) (e : w'.heap[B]? = w.heap[B]?) : BlkO w' B m t := by
  obtain ⟨c, h1, h2⟩ := h
  exact ⟨c, e.trans h1, h2⟩
theorem spoilO_nil (v : Value) (x : Sh.Op) (hv : v = .agg #[.int .i64 x.k, .int .i64 x.a, .int .u8 (x.b.toNat : Int)]) (w : World) : Calls Try.prog 27 #[.slice none 0 0, v] w fun e w' => e = .returned (.tuple #[]) ∧ Below w.heap.size w w' := by
  subst hv
  go_enter Try.func27, Try.ntmps27
  go_wp2
  go_loopw [11] (fun y wr => y = .int .i64 0 ∧ Below w.heap.size w wr) (fun _ _ => 0)
  case atStart => exact ⟨rfl, bl_new _ _⟩
  case round =>
    obtain ⟨rfl, hbel⟩ := hrel
    go_wp2
    go_end0
    exact ⟨rfl, hbel⟩
theorem spoilO_row (B n c : Nat) (x : Sh.Op) (w : World) (h : BlkO w B (c * 3) 23) (hn : n ≤ c) (hc : c ≤ maxLen) :
    Calls Try.prog 27 #[.slice (some ⟨B, 0, none⟩) n c, .agg #[.int .i64 x.k, .int .i64 x.a, .int .u8 (x.b.toNat : Int)]] w fun e w' => e = .returned (.tuple #[]) ∧ w.grownBy w' (some B) := by
  unfold maxLen at hc
  have hn' : (n : Int) ≤ (c : Int) := by omega
  have hlt := h.lt
  have HNB : Hid (w.heap.size ≠ B) := by show _ ≠ _; omega
  have H0 : Hid (BlkO (w.alloc (.cells #[.int .i64 x.k, .int .i64 x.a, .int .u8 (x.b.toNat : Int)] 23)) B (c * 3) 23) := h.of_block ((bl_new w _).block B hlt)
  have HG := hid (so_new (w := w) (.cells #[.int .i64 x.k, .int .i64 x.a, .int .u8 (x.b.toNat : Int)] 23) (some B))
  obtain ⟨hx0, hx1, hx2⟩ := op_new w x 23
  have HX : Hid ((w.alloc (.cells #[.int .i64 x.k, .int .i64 x.a, .int .u8 (x.b.toNat : Int)] 23)).cell? ⟨w.heap.size, 0, none⟩ = some (.int .i64 x.k) ∧ (w.alloc (.cells #[.int .i64 x.k, .int .i64 x.a, .int .u8 (x.b.toNat : Int)] 23)).cell? ⟨w.heap.size, 1, none⟩ = some (.int .i64 x.a) ∧ (w.alloc (.cells #[.int .i64 x.k, .int .i64 x.a, .int .u8 (x.b.toNat : Int)] 23)).cell? ⟨w.heap.size, 2, none⟩ = some (.int .u8 (x.b.toNat : Int))) := ⟨hx0, hx1, hx2⟩
  clear h hlt hx0 hx1 hx2
  go_enter Try.func27, Try.ntmps27
  go_wp2
  generalize w.alloc (.cells #[.int .i64 x.k, .int .i64 x.a, .int .u8 (x.b.toNat : Int)] 23) = w0 at *
  go_loopw [11] (fun y wr => ∃ i : Nat, i ≤ c ∧ y = .int .i64 (i : Int) ∧ Hid (BlkO wr B (c * 3) 23) ∧ Hid (w.grownBy wr (some B)) ∧ Hid (wr.cell? ⟨w.heap.size, 0, none⟩ = some (.int .i64 x.k) ∧ wr.cell? ⟨w.heap.size, 1, none⟩ = some (.int .i64 x.a) ∧ wr.cell? ⟨w.heap.size, 2, none⟩ = some (.int .u8 (x.b.toNat : Int)))) (fun y _ => c - (intOf y).toNat)
  case atStart => exact ⟨0, by omega, rfl, H0, HG, HX⟩
  case round =>
    clear H0 HG HX
    obtain ⟨i, hi, rfl, HK, HG, HX⟩ := hrel
    by_cases hlt : i < c
    · have hlt' : (i : Int) < (c : Int) := by omega
      obtain ⟨hx0, hx1, hx2⟩ := HX.out
      obtain ⟨⟨v1, hc1⟩, hf1⟩ := HK.out.cell (i := i * 3) (by omega)
      obtain ⟨⟨v2, hc2⟩, hf2⟩ := HK.out.cell (i := i * 3 + 1) (by omega)
      obtain ⟨⟨v3, hc3⟩, hf3⟩ := HK.out.cell (i := i * 3 + 2) (by omega)
      have K1 := hid (((HK.out.set (i * 3) (.int .i64 x.k)).set (i * 3 + 1) (.int .i64 x.a)).set (i * 3 + 2) (.int .u8 (x.b.toNat : Int)))
      have K2 := hid (so_set (i := i * 3 + 2) (v := .int .u8 (x.b.toNat : Int)) (so_set (i := i * 3 + 1) (v := .int .i64 x.a) (so_set (i := i * 3) (v := .int .i64 x.k) HG.out)))
      have hother : ∀ (j k : Nat) (W : World) (v : Value), (W.setCell ⟨B, j, none⟩ v).cell? ⟨w.heap.size, k, none⟩ = W.cell? ⟨w.heap.size, k, none⟩ := fun j k W v =>
        World.cell?_setCell_other W _ _ _ (by intro e; injection e with e1 _; exact HNB.out e1.symm)
      have K3 : Hid ((((wr.setCell ⟨B, i * 3, none⟩ (.int .i64 x.k)).setCell ⟨B, i * 3 + 1, none⟩ (.int .i64 x.a)).setCell ⟨B, i * 3 + 2, none⟩ (.int .u8 (x.b.toNat : Int))).cell? ⟨w.heap.size, 0, none⟩ = some (.int .i64 x.k) ∧
          (((wr.setCell ⟨B, i * 3, none⟩ (.int .i64 x.k)).setCell ⟨B, i * 3 + 1, none⟩ (.int .i64 x.a)).setCell ⟨B, i * 3 + 2, none⟩ (.int .u8 (x.b.toNat : Int))).cell? ⟨w.heap.size, 1, none⟩ = some (.int .i64 x.a) ∧
          (((wr.setCell ⟨B, i * 3, none⟩ (.int .i64 x.k)).setCell ⟨B, i * 3 + 1, none⟩ (.int .i64 x.a)).setCell ⟨B, i * 3 + 2, none⟩ (.int .u8 (x.b.toNat : Int))).cell? ⟨w.heap.size, 2, none⟩ = some (.int .u8 (x.b.toNat : Int))) := by
        show _ ∧ _
        refine ⟨?_, ?_, ?_⟩
        · rw [hother, hother, hother]; exact hx0
        · rw [hother, hother, hother]; exact hx1
        · rw [hother, hother, hother]; exact hx2
      clear hother HX HK HG
      go_wp2
      go_roundw
      case measure => simp [intOf]; omega
      case rel => exact ⟨i + 1, by omega, by go_num, K1, K2, K3⟩
    · have hlt' : decide ((i : Int) < (c : Int)) = false := decide_eq_false (by omega)
      go_wp2
      go_end0
      exact ⟨rfl, HG.out⟩
theorem spoilO_any {w : World} {base : Nat} {v : Value} {L : List Sh.Op} (x : Sh.Op) (h : OwnO w base v L) :
    Calls Try.prog 27 #[v, .agg #[.int .i64 x.k, .int .i64 x.a, .int .u8 (x.b.toNat : Int)]] w fun e w' => e = .returned (.tuple #[]) ∧ w.grownBy w' v.ownBlock := by
  rcases h.2 with ⟨rfl, h0⟩ | ⟨g, cap, cur, rfl, h1, h2, h3, h4, h5, h6⟩
  · refine (spoilO_nil _ x rfl w).mono ?_
    rintro e w' ⟨rfl, hb⟩
    exact ⟨rfl, so_below hb _⟩
  · exact spoilO_row g _ cap x w ⟨cur, h2, h5⟩ h3 h4
theorem clone_o_long (b o n c : Nat) (h : Nat → Sh.Op) (w : World) (hr : OpRow w (some ⟨b, o, none⟩) n h) (hl : n * 24 ≤ 140737488351232) (h0 : 0 < n) :
    Calls Try.prog 26 #[.slice (some ⟨b, o, none⟩) n c] w fun e w' => ∃ v, e = .returned v ∧ OwnO w' w.heap.size v (ol h n) ∧ Below w.heap.size w w' := by
  have hq := fun W : World => Lib.run_eql_slice_nil (P := Try.prog) W 33 23 (some ⟨b, o, none⟩) n c 0 0 Try.underlying33
  have HR := hid hr
  clear hr
  go_enter Try.func26, Try.ntmps26
  obtain ⟨i0, hi, hz0, hz1, hz2⟩ := info_parts Try.infoOp
  have H1 := hid hi
  have H2 := hid hz0
  have H3 := hid hz1
  have H4 := hid hz2
  have H5 := hid (OpRow.news (HR.out.keep (bl_new w (.cells #[] 23))))
  have H6 := hid (op_one (ol h n))
  have H7 : Hid ((w.alloc (.cells #[] 23)).ownsRow w.heap.size 23 3 (.slice (some ⟨w.heap.size, 0, none⟩) 0 0) 0 []) := World.ownsRow_made w #[] 0 (Nat.le_refl _) (by decide) rfl
  have H8 : Hid (((ol h n).flatMap opC).length = n * 3) := by show _ = _; rw [op_len, ol_len]
  have H9 : Hid (w.heap.size ≤ (w.alloc (.cells #[] 23)).heap.size) := by show _ ≤ _; simp
  clear hi hz0 hz1 hz2
  go_wp2_with (at_builtin; with_reducible refine wpList_append_lies _ rfl _ _ 33 rfl w.heap.size 23 i0 (.agg #[.int .i64 0, .int .i64 0, .int .u8 0]) 3 24 Try.underlying33 H1.out H2.out H3.out H4.out rfl (by decide) (.slice (some ⟨w.heap.size, 0, none⟩) 0 0) 0 [] (by simp [Act.eval]) H7.out ⟨b, o, none⟩ n c ((ol h n).flatMap opC) (by simp [Act.eval]) H8.out H5.out H6.out h0 (by unfold maxLen; omega) (by omega) H9.out _ rfl ?_; intro g cap w1 hown hgrow hat hlt; have G1 := hid hown; have G2 := hid hgrow; have G3 := hid hat; clear hown hgrow hat)
  go_ret
  refine ⟨_, rfl, ?_, ?_⟩
  · have := G1.out
    rw [Nat.zero_add, List.nil_append] at this
    unfold OwnO
    rw [ol_len]
    exact this
  · refine (bl_new w (.cells #[] 23)).grown G2.out H9.out ?_
    intro k hk
    simp [Value.ownBlock] at hk
    omega
theorem clone_o_big (A : Option Addr) (n c : Nat) (h : Nat → Sh.Op) (w : World) (hr : OpRow w A n h) (hl : n * 24 ≤ 140737488351232) (hA : A = none → n = 0) :
    Calls Try.prog 26 #[.slice A n c] w fun e w' => ∃ v, e = .returned v ∧ OwnO w' w.heap.size v (ol h n) ∧ Below w.heap.size w w' := by
  cases A with
  | none =>
    obtain rfl := hA rfl
    refine (clone_o_nil 0 c w).mono ?_
    rintro e w' ⟨rfl, rfl⟩
    exact ⟨_, rfl, OwnO.zero _ _, Below.refl _ _⟩
  | some a =>
    by_cases h0 : n = 0
    · subst h0
      exact clone_o_zero a c w
    · obtain ⟨b, o, e, _⟩ := hr 0 (by omega)
      cases e
      exact clone_o_long b o n c h w hr hl (by omega)
end Go.Proofs.Ytgkagigagcamoaa
