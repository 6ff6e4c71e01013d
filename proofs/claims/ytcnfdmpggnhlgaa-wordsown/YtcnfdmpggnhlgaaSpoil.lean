/-
The contracts of quillkeep.spoil at rows of the caller's own, of numbers and of hits: only that block turns.
-/
import Derived.Test.YtcnfdmpggnhlgaaOrder
import Derived.Test.YtcnfdmpggnhlgaaHits
namespace Go.Proofs.Ytcnfdmpggnhlgaa
open Go.RowKit

theorem spoil_nil (x : Int) (w : World) : Calls Try.prog 37 #[.slice none 0 0, .int .i64 x] w fun e w' => e = .returned (.tuple #[]) ∧ w = w' := by
  go_enter Try.func37, Try.ntmps37
  go_wp2
  go_loopw [11] (fun y wr => y = .int .i64 0 ∧ wr = w) (fun _ _ => 0)
  case atStart => exact ⟨rfl, rfl⟩
  case round =>
    obtain ⟨rfl, rfl⟩ := hrel
    go_wp2
    go_end0
    exact ⟨rfl, rfl⟩
theorem sp_refl (w : World) (o : Option Nat) : w.grownBy w o := ⟨rfl, rfl, rfl, Nat.le_refl _, fun _ _ _ => rfl⟩
theorem sp_set {w a : World} {g i : Nat} {v : Value} (h : w.grownBy a (some g)) : w.grownBy (a.setCell ⟨g, i, none⟩ v) (some g) :=
  ⟨h.os, h.tape, h.output, by simpa using h.size, fun x hx hne => (Below.heap_setCell a _ v x (fun e => hne (by rw [e]))).trans (h.block x hx hne)⟩
theorem sp_new {w : World} (o : Obj) (g : Option Nat) : w.grownBy (w.alloc o) g :=
  ⟨rfl, rfl, rfl, by simp, fun x hx _ => (bl_new w o).block x hx⟩
theorem spoil_row (B n : Nat) (x : Int) (f : Nat → Value) (w : World) (h : w.rowIs B 3 n f) (hn : n ≤ 1000) :
    Calls Try.prog 37 #[.slice (some ⟨B, 0, none⟩) n n, .int .i64 x] w fun e w' => e = .returned (.tuple #[]) ∧ w.grownBy w' (some B) := by
  have H := hid h
  clear h
  go_enter Try.func37, Try.ntmps37
  go_wp2
  go_loopw [11] (fun y wr => ∃ i : Nat, i ≤ n ∧ y = .int .i64 (i : Int) ∧ Hid (∃ f, wr.rowIs B 3 n f) ∧ Hid (w.grownBy wr (some B))) (fun y _ => n - (intOf y).toNat)
  case atStart => exact ⟨0, by omega, rfl, hid ⟨f, H.out⟩, hid (sp_refl _ _)⟩
  case round =>
    obtain ⟨i, hi, rfl, HF, hbel⟩ := hrel
    by_cases hlt : i < n
    · obtain ⟨g, hrow⟩ := HF.out
      have hlt' : (i : Int) < (n : Int) := by omega
      have hroom := hrow.frozen i
      have hci := hrow.cell hlt
      have HF2 : Hid (∃ f, (wr.setCell ⟨B, i, none⟩ (.int .i64 x)).rowIs B 3 n f) := ⟨_, World.rowIs.set hrow i _⟩
      have hbel2 := hid (sp_set (i := i) (v := .int .i64 x) hbel.out)
      clear hrow HF hbel
      go_wp2
      go_roundw
      case measure => simp [intOf]; omega
      case rel => exact ⟨i + 1, by omega, by go_num, HF2, hbel2⟩
    · have hlt' : decide ((i : Int) < (n : Int)) = false := decide_eq_false (by omega)
      go_wp2
      go_end0
      exact ⟨rfl, hbel.out⟩
theorem spoilH_nil (v : Value) (a b : Int) (hv : v = .agg #[.int .i64 a, .int .i64 b]) (w : World) : Calls Try.prog 38 #[.slice none 0 0, v] w fun e w' => e = .returned (.tuple #[]) ∧ Below w.heap.size w w' := by
  subst hv
  go_enter Try.func38, Try.ntmps38
  go_wp2
  go_loopw [11] (fun y wr => y = .int .i64 0 ∧ Below w.heap.size w wr) (fun _ _ => 0)
  case atStart => exact ⟨rfl, bl_new _ _⟩
  case round =>
    obtain ⟨rfl, hbel⟩ := hrel
    go_wp2
    go_end0
    exact ⟨rfl, hbel⟩
/-- A block of m cells that may be written. -/
def Blk (w : World) (B m : Nat) (t : TypeId) : Prop := ∃ c : Array Value, w.heap[B]? = some (.cells c t (0, 0)) ∧ c.size = m
theorem Blk.cell {w : World} {B m i : Nat} {t : TypeId} (h : Blk w B m t) (hi : i < m) : (∃ v, w.cell? ⟨B, i, none⟩ = some v) ∧ w.frozen? ⟨B, i, none⟩ = false := by
  obtain ⟨c, h1, h2⟩ := h
  have hr : w.rowIs B t m (fun k => c.getD k default) := ⟨c, h1, h2, fun k hk => by simp [show k < c.size by omega]⟩
  exact ⟨⟨_, hr.cell hi⟩, hr.frozen i⟩
theorem Blk.set {w : World} {B m : Nat} {t : TypeId} (h : Blk w B m t) (i : Nat) (v : Value) : Blk (w.setCell ⟨B, i, none⟩ v) B m t := by
  obtain ⟨c, h1, h2⟩ := h
  have hr : w.rowIs B t m (fun k => c.getD k default) := ⟨c, h1, h2, fun k hk => by simp [show k < c.size by omega]⟩
  obtain ⟨c', g1, g2, _⟩ := World.rowIs.set hr i v
  exact ⟨c', g1, g2⟩
theorem Blk.lt {w : World} {B m : Nat} {t : TypeId} (h : Blk w B m t) : B < w.heap.size := by
  obtain ⟨c, h1, _⟩ := h
  exact (Array.getElem?_eq_some_iff.1 h1).1
theorem Blk.of_block {w w' : World} {B m : Nat} {t : TypeId} (h : Blk w B m t) (e : w'.heap[B]? = w.heap[B]?) : Blk w' B m t := by
  obtain ⟨c, h1, h2⟩ := h
  exact ⟨c, e.trans h1, h2⟩
theorem spoilH_row (B n c : Nat) (a b : Int) (w : World) (h : Blk w B (c * 2) 55) (hn : n ≤ c) (hc : c ≤ maxLen) :
    Calls Try.prog 38 #[.slice (some ⟨B, 0, none⟩) n c, .agg #[.int .i64 a, .int .i64 b]] w fun e w' => e = .returned (.tuple #[]) ∧ w.grownBy w' (some B) := by
  unfold maxLen at hc
  have hn' : (n : Int) ≤ (c : Int) := by omega
  have hlt := h.lt
  have HNB : Hid (w.heap.size ≠ B) := by show _ ≠ _; omega
  have H0 : Hid (Blk (w.alloc (.cells #[.int .i64 a, .int .i64 b] 55)) B (c * 2) 55) := h.of_block ((bl_new w _).block B hlt)
  have HG := hid (sp_new (w := w) (.cells #[.int .i64 a, .int .i64 b] 55) (some B))
  have HX1 : Hid ((w.alloc (.cells #[.int .i64 a, .int .i64 b] 55)).cell? ⟨w.heap.size, 0, none⟩ = some (.int .i64 a)) := by show _ = _; simp
  have HX2 : Hid ((w.alloc (.cells #[.int .i64 a, .int .i64 b] 55)).cell? ⟨w.heap.size, 1, none⟩ = some (.int .i64 b)) := by show _ = _; simp
  clear h hlt
  go_enter Try.func38, Try.ntmps38
  go_wp2
  generalize w.alloc (.cells #[.int .i64 a, .int .i64 b] 55) = w0 at *
  go_loopw [11] (fun y wr => ∃ i : Nat, i ≤ c ∧ y = .int .i64 (i : Int) ∧ Hid (Blk wr B (c * 2) 55) ∧ Hid (w.grownBy wr (some B)) ∧ Hid (wr.cell? ⟨w.heap.size, 0, none⟩ = some (.int .i64 a)) ∧ Hid (wr.cell? ⟨w.heap.size, 1, none⟩ = some (.int .i64 b))) (fun y _ => c - (intOf y).toNat)
  case atStart => exact ⟨0, by omega, rfl, H0, HG, HX1, HX2⟩
  case round =>
    clear H0 HG HX1 HX2
    obtain ⟨i, hi, rfl, HK, HG, HX1, HX2⟩ := hrel
    by_cases hlt : i < c
    · have hlt' : (i : Int) < (c : Int) := by omega
      have hx1 := HX1.out
      have hx2 := HX2.out
      obtain ⟨⟨v1, hc1⟩, hf1⟩ := HK.out.cell (i := i * 2) (by omega)
      obtain ⟨⟨v2, hc2⟩, hf2⟩ := HK.out.cell (i := i * 2 + 1) (by omega)
      have K1 := hid ((HK.out.set (i * 2) (.int .i64 a)).set (i * 2 + 1) (.int .i64 b))
      have K2 := hid (sp_set (i := i * 2 + 1) (v := .int .i64 b) (sp_set (i := i * 2) (v := .int .i64 a) HG.out))
      have hother : ∀ (j k : Nat) (W : World) (v : Value), (W.setCell ⟨B, j, none⟩ v).cell? ⟨w.heap.size, k, none⟩ = W.cell? ⟨w.heap.size, k, none⟩ := fun j k W v =>
        World.cell?_setCell_other W _ _ _ (by intro e; injection e with e1 _; exact HNB.out e1.symm)
      have K3 : Hid (((wr.setCell ⟨B, i * 2, none⟩ (.int .i64 a)).setCell ⟨B, i * 2 + 1, none⟩ (.int .i64 b)).cell? ⟨w.heap.size, 0, none⟩ = some (.int .i64 a)) := by
        show _ = _
        rw [hother, hother]; exact hx1
      have K4 : Hid (((wr.setCell ⟨B, i * 2, none⟩ (.int .i64 a)).setCell ⟨B, i * 2 + 1, none⟩ (.int .i64 b)).cell? ⟨w.heap.size, 1, none⟩ = some (.int .i64 b)) := by
        show _ = _
        rw [hother, hother]; exact hx2
      clear hother HX1 HX2 HK HG
      go_wp2
      go_roundw
      case measure => simp [intOf]; omega
      case rel => exact ⟨i + 1, by omega, by go_num, K1, K2, K3, K4⟩
    · have hlt' : decide ((i : Int) < (c : Int)) = false := decide_eq_false (by omega)
      go_wp2
      go_end0
      exact ⟨rfl, HG.out⟩
end Go.Proofs.Ytcnfdmpggnhlgaa
