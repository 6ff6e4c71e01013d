/-
Several texts of this proof, one behind the other.
-/
import Derived.Test.YtgkagigagcamoaaChecked
import Derived.WalkKit
import Derived.BigQuiet
import Derived.Deep.QuietTactic
import Derived.Deep.OwnRows
import Derived.Deep.Draws
import Derived.Great.BuildSlice
import Derived.Laws.Rows

/-
Words of our own for memory (a slice that reads as numbers; what stays as it was), and small facts. Nothing is claimed here.
-/
namespace Go.Proofs.Ytgkagigagcamoaa
open Go.RowKit

theorem hid {p : Prop} (h : p) : Hid p := h

theorem ret_bool {a b : Bool} (h : a = b) : Ending.returned (.bool a) = .returned (.bool b) := by rw [h]
theorem ret_int {k : IntKind} {a b : Int} (h : a = b) : Ending.returned (.int k a) = .returned (.int k b) := by rw [h]

theorem byte_ne {a b : UInt8} (h : a ≠ b) : ((a.toNat : Int) != (b.toNat : Int)) = true ∧ ((a.toNat : Int) == (b.toNat : Int)) = false := by
  have h1 : (a.toNat : Int) ≠ (b.toNat : Int) := fun e => h (UInt8.toNat_inj.1 (by omega))
  exact ⟨bne_iff_ne.2 h1, beq_eq_false_iff_ne.2 h1⟩
theorem byte_same (a : UInt8) : ((a.toNat : Int) != (a.toNat : Int)) = false ∧ ((a.toNat : Int) == (a.toNat : Int)) = true := ⟨by simp, by simp⟩
theorem some_bytes {s : ByteArray} (h : 0 < s.size) : s.toList.isEmpty = false := by
  rw [ByteArray.toList_eq]
  cases he : s.data.toList with
  | nil =>
    have : s.data.toList.length = s.size := by cases s; rfl
    rw [he] at this
    simp at this
    omega
  | cons => rfl
theorem no_bytes {s : ByteArray} (h : s.size = 0) : s.toList.isEmpty = true := by
  rw [ByteArray.toList_eq, List.isEmpty_iff]
  have : s.data.toList.length = s.size := by cases s; rfl
  exact List.eq_nil_of_length_eq_zero (by omega)
/-- Byte i of s. -/
def byt (s : ByteArray) (i : Nat) : UInt8 := s.data.toList.getD i 0
theorem byt_eq {s : ByteArray} {k : Nat} (h : k < s.size) : byt s k = s[k] := by
  unfold byt
  rw [List.getD_eq_getElem?_getD, List.getElem?_eq_getElem (by simpa using h)]
  rfl

/-- The first n cells at A hold the numbers g 0, g 1, ..; they lie in blocks that are there. -/
def IRow (w : World) (A : Option Addr) (n : Nat) (g : Nat → Int) : Prop :=
  ∀ k, k < n → ∃ b o, A = some ⟨b, o, none⟩ ∧ b < w.heap.size ∧ w.cell? ⟨b, o + k, none⟩ = some (.int .i64 (g k))

theorem IRow.at_ {w : World} {A : Option Addr} {n : Nat} {g : Nat → Int} (h : IRow w A n g) {k : Nat} (hk : k < n) :
    ∃ b o, A = some ⟨b, o, none⟩ ∧ b < w.heap.size ∧ w.cell? ⟨b, o + k, none⟩ = some (.int .i64 (g k)) := h k hk
theorem IRow.keep {w w' : World} {A : Option Addr} {n : Nat} {g : Nat → Int} (h : IRow w A n g) (hb : Below w.heap.size w w') : IRow w' A n g := by
  intro k hk
  obtain ⟨b, o, rfl, hlt, hc⟩ := h k hk
  exact ⟨b, o, rfl, Nat.lt_of_lt_of_le hlt hb.size, (hb.cell (p := ⟨b, o + k, none⟩) hlt).trans hc⟩
theorem IRow.drewN {w : World} {A : Option Addr} {n : Nat} {g : Nat → Int} (h : IRow w A n g) (d : Nat) : IRow (w.drewN d) A n g := h
theorem IRow.drew {w : World} {A : Option Addr} {n : Nat} {g : Nat → Int} (h : IRow w A n g) : IRow w.drew A n g := h
theorem IRow.congr {w : World} {A : Option Addr} {n : Nat} {g g' : Nat → Int} (h : IRow w A n g) (e : ∀ k, k < n → g k = g' k) : IRow w A n g' := by
  intro k hk
  obtain ⟨b, o, h1, h2, h3⟩ := h k hk
  exact ⟨b, o, h1, h2, by rw [h3, e k hk]⟩
theorem IRow.none_ (w : World) (A : Option Addr) (g : Nat → Int) : IRow w A 0 g := fun k hk => by omega

theorem IRow.alloc {w : World} {A : Option Addr} {n : Nat} {g : Nat → Int} (h : IRow w A n g) (o : Obj) : IRow (w.alloc o) A n g :=
  h.keep ((Below.refl _ _).alloc (Nat.le_refl _) o)
/-- A new block that holds the numbers l. -/
theorem IRow.lit (w : World) (l : List Int) (t : TypeId) (n N : Nat) (hN : w.heap.size = N) (hn : n = l.length) : IRow (w.alloc (.cells (l.map (Value.int .i64)).toArray t)) (some ⟨N, 0, none⟩) n (fun k => l.getD k 0) := by
  subst hN
  intro k hk
  refine ⟨w.heap.size, 0, rfl, by simp, ?_⟩
  rw [cell_of_row _ _ _ _ _ _ (heap_alloc_new w _)]
  have hk' : k < l.length := by omega
  simp [List.getElem?_eq_getElem hk', List.getD_eq_getElem?_getD]

/-- v is a slice of the call's own (from block 'base' on) that holds the numbers L. -/
def OwnI (w : World) (base : Nat) (v : Value) (L : List Int) : Prop := w.ownsRow base 3 1 v L.length (L.map (Value.int .i64))
theorem OwnI.irow {w : World} {base : Nat} {v : Value} {l : List Int} (h : OwnI w base v l) :
    ∃ A c, v = .slice A l.length c ∧ IRow w A l.length (fun k => l.getD k 0) := by
  have hcell := fun g cap (e : v = .slice (some ⟨g, 0, none⟩) l.length cap) (k : Nat) (hk : k < l.length) => World.ownsRow.cellAt (e ▸ h) k (by omega)
  have hlt := World.ownsRow.lt h
  rcases h.2 with ⟨rfl, h0⟩ | ⟨g, cap, cur, rfl, _⟩
  · have hl : l = [] := by simpa using h0
    subst hl
    exact ⟨none, 0, rfl, IRow.none_ _ _ _⟩
  · refine ⟨some ⟨g, 0, none⟩, cap, rfl, fun k hk => ⟨g, 0, rfl, (hlt g rfl).2, ?_⟩⟩
    rw [Nat.zero_add, hcell g cap rfl k hk]
    simp [List.getElem?_eq_getElem hk, List.getD_eq_getElem?_getD]
theorem OwnI.zero (w : World) (base : Nat) : OwnI w base (.slice none 0 0) [] := World.ownsRow_nil w base _ 1
theorem OwnI.drewN {w : World} {base : Nat} {v : Value} {L : List Int} (h : OwnI w base v L) (d : Nat) : OwnI (w.drewN d) base v L := h

theorem bl_drewN {B : Nat} {a w : World} (h : Below B a w) (n : Nat) : Below B a (w.drewN n) := ⟨h.os, h.tape, h.output, h.size, h.block⟩
theorem bl_of_drewN {B : Nat} {a w : World} {n : Nat} (h : Below B (a.drewN n) w) : Below B a w := ⟨h.os, h.tape, h.output, h.size, h.block⟩

theorem Try.infoInt : (Try.prog.info? 3).map (fun i => (i.zero, i.size, i.bytes)) = some (some (.int .i64 0), 1, 8) := by kernel_rfl
/-- 'out = append(out, n)', out a row of the call's own, of numbers. -/
theorem app_int {ops : Array Oper} {rest : List Oper} {o : Oper} {a : Act} {Q : Exit → Act → World → Prop} {wr : World} {L : List Int} {n : Int} {v : Value} {base : Nat} (hgd : o.guard = none) (s x : Operand)
    (ho : o.op = .call { callee := .builtin .append, args := #[s, x], argTypes := #[119, 119] })
    (hs : a.eval s = v) (hown : OwnI wr base v L) (N : Nat) (hN : wr.heap.size = N) (hx : a.eval x = .slice (some ⟨N, 0, none⟩) 1 1)
    (hbase : base ≤ N) (hlen : L.length < 1000000)
    (h : ∀ v' w', OwnI w' base v' (L ++ [n]) → Below base wr w' → wpList Try.prog ops Q rest (a.put o.dst v') w') :
    wpList Try.prog ops Q (o :: rest) a (wr.alloc (.cells #[.int .i64 n] 3)) := by
  subst hN
  obtain ⟨i0, hi, hz0, hz1, hz2⟩ := info_parts Try.infoInt
  refine wpList_append_own _ hgd s x 119 ho base 3 i0 (.int .i64 0) 1 8 Try.underlying119 hi hz0 hz1 hz2 rfl (by decide) v _ _ hs (World.ownsRow.alloc hown _) ⟨wr.heap.size, 0, none⟩ 1 1 [.int .i64 n] hx rfl ?_ ?_ ?_ ?_ ?_ ?_
  · intro j u hj
    match j, hj with
    | 0, hj => simp at hj; subst hj; simp [Addr.add]
  · intro u hu; simp at hu; subst hu; rfl
  · unfold maxLen; omega
  · omega
  · simp; omega
  · intro v' w' h1 h2 _
    refine h v' w' (by unfold OwnI; simpa using h1) ?_
    have hb : Below base wr (wr.alloc (.cells #[.int .i64 n] 3)) := (Below.refl _ _).alloc hbase _
    exact hb.grown h2 (by simp; omega) fun k hk => ((World.ownsRow.lt hown k hk).1)

/-- A slice of n numbers in new memory. -/
def RetInts (n : Nat) (g : Nat → Int) (w : World) (e : Ending) (w' : World) : Prop :=
  ∃ A c, e = .returned (.slice A n c) ∧ IRow w' A n g ∧ Below w.heap.size w w'
theorem bl_then {w a b : World} (h : Below w.heap.size w a) (k : Below a.heap.size a b) : Below w.heap.size w b := h.trans (k.mono h.size)
theorem bl_new (w : World) (o : Obj) : Below w.heap.size w (w.alloc o) := (Below.refl _ _).alloc (Nat.le_refl _) o
/-- Two rows of numbers are the same. -/
def eqB (n m : Nat) (g h : Nat → Int) : Bool := decide (n = m ∧ ∀ k, k < n → g k = h k)
theorem eqB_true {n m : Nat} {g h : Nat → Int} : eqB n m g h = true ↔ (n = m ∧ ∀ k, k < n → g k = h k) := by unfold eqB; exact decide_eq_true_iff

/-- The number of draws is of no matter. -/
def Drew (w w' : World) : Prop := ∃ k, w' = w.drewN k
theorem Drew.more {w w1 : World} (h : Drew w w1) (n : Nat) : Drew w (w1.drewN n) := by
  obtain ⟨k, rfl⟩ := h
  exact ⟨k + n, World.drewN_drewN _ _ _⟩
theorem Drew.is_ (w : World) (n : Nat) : Drew w (w.drewN n) := ⟨n, rfl⟩
theorem Drew.trans {a b c : World} (h : Drew a b) (k : Drew b c) : Drew a c := by
  obtain ⟨n, rfl⟩ := k
  exact h.more n
theorem Drew.refl (w : World) : Drew w w := ⟨0, rfl⟩
theorem Drew.below {w w' : World} (h : Drew w w') (B : Nat) : Below B w w' := by
  obtain ⟨k, rfl⟩ := h
  exact bl_drewN (Below.refl B w) k
end Go.Proofs.Ytgkagigagcamoaa


/-
Strings as bytes: parts of them, and when two are the same.
-/
namespace Go.Proofs.Ytgkagigagcamoaa
theorem size_list (s : ByteArray) : s.data.toList.length = s.size := by cases s; rfl
theorem ext_data (s : ByteArray) (a b : Nat) : (s.extract a b).data.toList = (s.data.toList.drop a).take (b - a) := by
  rw [ByteArray.data_extract, Array.toList_extract, List.extract_eq_take_drop]
theorem size_ext (s : ByteArray) (a b : Nat) : (s.extract a b).size = min b s.size - a := by
  rw [← size_list, ext_data, List.length_take, List.length_drop, size_list]; omega
theorem byt_ext {s : ByteArray} {a b i : Nat} (h : i < b - a) : byt (s.extract a b) i = byt s (a + i) := by
  unfold byt
  rw [ext_data, List.getD_eq_getElem?_getD, List.getD_eq_getElem?_getD, List.getElem?_take, if_pos h, List.getElem?_drop]
/-- Two strings are the same just if they have as many bytes, and the same ones. -/
theorem str_eq {a b : ByteArray} : a.toList = b.toList ↔ (a.size = b.size ∧ ∀ i, i < a.size → byt a i = byt b i) := by
  rw [ByteArray.toList_eq, ByteArray.toList_eq, ← size_list a, ← size_list b]
  constructor
  · intro h; unfold byt; rw [h]; exact ⟨rfl, fun _ _ => rfl⟩
  · rintro ⟨h1, h2⟩
    apply List.ext_getElem h1
    intro i hi hj
    have := h2 i hi
    unfold byt at this
    rw [List.getD_eq_getElem?_getD, List.getD_eq_getElem?_getD, List.getElem?_eq_getElem hi, List.getElem?_eq_getElem hj] at this
    exact this
theorem str_eq' {a b : ByteArray} : a = b ↔ (a.size = b.size ∧ ∀ i, i < a.size → byt a i = byt b i) := by
  rw [← str_eq, ByteArray.toList_eq, ByteArray.toList_eq]
  constructor
  · intro h; rw [h]
  · intro h; cases a; cases b; simp at h; simp [h]
/-- The bool that '==' on strings gives. -/
theorem beq_true {a b : ByteArray} (h : a.size = b.size ∧ ∀ i, i < a.size → byt a i = byt b i) : (a.toList == b.toList) = true := beq_iff_eq.2 (str_eq.2 h)
theorem beq_false {a b : ByteArray} (h : ¬ (a.size = b.size ∧ ∀ i, i < a.size → byt a i = byt b i)) : (a.toList == b.toList) = false := beq_eq_false_iff_ne.2 fun e => h (str_eq.1 e)
end Go.Proofs.Ytgkagigagcamoaa

