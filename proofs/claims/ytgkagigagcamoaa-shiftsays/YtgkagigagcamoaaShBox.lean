
/-
Struct variables that hold an op, and stay as they are.
-/
import Derived.Test.YtgkagigagcamoaaShC
namespace Go.Proofs.Ytgkagigagcamoaa
open Go.RowKit

/-- Block N is a struct variable that holds the op x. -/
def Bx (w : World) (N : Nat) (x : Sh.Op) : Prop :=
  N < w.heap.size ∧ w.cell? ⟨N, 0, none⟩ = some (.int .i64 x.k) ∧ w.cell? ⟨N, 1, none⟩ = some (.int .i64 x.a) ∧ w.cell? ⟨N, 2, none⟩ = some (.int .u8 (x.b.toNat : Int))
theorem Bx.new (w : World) (x : Sh.Op) (N : Nat) (hN : w.heap.size = N) : Bx (w.alloc (.cells #[.int .i64 x.k, .int .i64 x.a, .int .u8 (x.b.toNat : Int)] 23)) N x := by
  subst hN
  exact ⟨by simp, op_new w x _⟩
theorem Bx.keep {w w' : World} {N : Nat} {x : Sh.Op} (h : Bx w N x) (hb : Below w.heap.size w w') : Bx w' N x :=
  ⟨Nat.lt_of_lt_of_le h.1 hb.size, (hb.cell (p := ⟨N, 0, none⟩) h.1).trans h.2.1, (hb.cell (p := ⟨N, 1, none⟩) h.1).trans h.2.2.1, (hb.cell (p := ⟨N, 2, none⟩) h.1).trans h.2.2.2⟩
/-- Two boxes, one behind the other. -/
theorem Bx.two (w : World) (x y : Sh.Op) : Bx ((w.alloc (.cells #[.int .i64 x.k, .int .i64 x.a, .int .u8 (x.b.toNat : Int)] 23)).alloc (.cells #[.int .i64 y.k, .int .i64 y.a, .int .u8 (y.b.toNat : Int)] 23)) w.heap.size x ∧
    Bx ((w.alloc (.cells #[.int .i64 x.k, .int .i64 x.a, .int .u8 (x.b.toNat : Int)] 23)).alloc (.cells #[.int .i64 y.k, .int .i64 y.a, .int .u8 (y.b.toNat : Int)] 23)) (w.heap.size + 1) y ∧
    Below w.heap.size w ((w.alloc (.cells #[.int .i64 x.k, .int .i64 x.a, .int .u8 (x.b.toNat : Int)] 23)).alloc (.cells #[.int .i64 y.k, .int .i64 y.a, .int .u8 (y.b.toNat : Int)] 23)) :=
  ⟨(Bx.new w x _ rfl).keep (bl_new _ _), Bx.new _ y _ (by simp), bl_then (bl_new w _) (bl_new _ _)⟩
/-- What a check lets by is small. -/
theorem op_small {n : Int} {x : Sh.Op} (h : Sh.opErr n x = 0) : 0 ≤ x.k ∧ x.k ≤ 3 ∧ 0 ≤ x.a ∧ x.a ≤ 200 := by
  obtain ⟨⟨h0, h1⟩, h2, _⟩ := Sh.err_zero.1 h
  rcases h1 with ⟨a1, a2, a3⟩ | ⟨a1, a2, a3, _⟩ | ⟨a1, a2, _⟩ <;> omega
theorem past_small {n m : Int} {x y : Sh.Op} (f : Bool) (hx : Sh.opErr n x = 0) (hy : Sh.opErr n y = 0) (hm : m = n + Sh.lon y) (hn : n ≤ 198) : Sh.opErr m (Sh.past x y f) = 0 := by
  obtain ⟨k1, k2, k3⟩ := Sh.err_zero.1 hx
  obtain ⟨l1, l2, l3⟩ := Sh.err_zero.1 hy
  have := Sh.past_ok f k1 l1
  have hl := Sh.lon_le y
  subst hm
  exact Sh.err_zero.2 ⟨this, by omega, fun _ => by omega⟩
/-- The length behind an operation. -/
theorem do_size {s : ByteArray} {x : Sh.Op} (h : Sh.opErr (s.size : Int) x = 0) : ((mkS (Sh.doL (lst s) x)).size : Int) = (s.size : Int) + Sh.lon x := by
  have h1 := (Sh.err_zero.1 h).1
  rw [← lst_len] at h1
  have h2 := Sh.do_len h1
  rw [← lst_len (mkS _), lst_mk, h2, lst_len]
end Go.Proofs.Ytgkagigagcamoaa
