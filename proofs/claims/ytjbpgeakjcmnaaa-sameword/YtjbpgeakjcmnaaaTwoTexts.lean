
/-
Two texts in the making beside each other (rows of bytes of the call's own), both appended to by one statement whose order is left open.
-/
import Derived.Test.YtjbpgeakjcmnaaaFrText
import Derived.Test.YtjbpgeakjcmnaaaTwo
import Derived.Deep.AppendLies
namespace Go.Proofs.Ytjbpgeakjcmnaaa
open Go.RowKit

/-- Two texts of the call's own in the world W; below 'base' all is as it was in w1. -/
structure Dr (w1 W : World) (base : Nat) (u : Value) (L : List UInt8) (v : Value) (M : List UInt8) : Prop where
  below : Below base w1 W
  size : base ≤ W.heap.size
  one : OwnT W base u L
  two : OwnT W base v M
  apart : Apt u v
theorem Dr.turn {w1 W : World} {base : Nat} {u v : Value} {L M : List UInt8} (h : Dr w1 W base u L v M) : Dr w1 W base v M u L := ⟨h.below, h.size, h.two, h.one, h.apart.turn⟩
theorem Dr.alloc {w1 W : World} {base : Nat} {u v : Value} {L M : List UInt8} (h : Dr w1 W base u L v M) (o : Obj) : Dr w1 (W.alloc o) base u L v M :=
  ⟨h.below.alloc h.size o, by have := h.size; simp; omega, h.one.alloc o, h.two.alloc o, h.apart⟩
theorem Dr.drewN {w1 W : World} {base : Nat} {u v : Value} {L M : List UInt8} (h : Dr w1 W base u L v M) (d : Nat) : Dr w1 (W.drewN d) base u L v M := ⟨bl_drewN h.below d, h.size, h.one.drewN d, h.two.drewN d, h.apart⟩
theorem Dr.start (w : World) : Dr w w w.heap.size (.slice none 0 0) [] (.slice none 0 0) [] := ⟨Below.refl _ _, Nat.le_refl _, OwnT.zero _ _, OwnT.zero _ _, Apt.zero _⟩
/-- Block N holds one byte that is to be appended. -/
structure Pend (W : World) (u v : Value) (N : Nat) (x : UInt8) : Prop where
  cell : W.cell? ⟨N, 0, none⟩ = some (.int .u8 (x.toNat : Int))
  lt : N < W.heap.size
  one : u.ownBlock ≠ some N
  two : v.ownBlock ≠ some N
theorem Pend.turn {W : World} {u v : Value} {N : Nat} {x : UInt8} (h : Pend W u v N x) : Pend W v u N x := ⟨h.cell, h.lt, h.two, h.one⟩
theorem Pend.new {w1 W : World} {base : Nat} {u v : Value} {L M : List UInt8} (h : Dr w1 W base u L v M) (x : UInt8) (N : Nat) (hN : W.heap.size = N) : Pend (W.alloc (.cells #[.int .u8 (x.toNat : Int)] 5)) u v N x := by
  subst hN
  refine ⟨by simp, by simp, fun e => ?_, fun e => ?_⟩
  · have := (h.one.lt_ _ e).2; omega
  · have := (h.two.lt_ _ e).2; omega
theorem Pend.up {W : World} {u v : Value} {N : Nat} {x : UInt8} (h : Pend W u v N x) (o : Obj) : Pend (W.alloc o) u v N x :=
  ⟨(World.cell?_alloc_lt W o ⟨N, 0, none⟩ h.lt).trans h.cell, by have := h.lt; simp; omega, h.one, h.two⟩
theorem Pend.drewN {W : World} {u v : Value} {N : Nat} {x : UInt8} (h : Pend W u v N x) (d : Nat) : Pend (W.drewN d) u v N x := ⟨h.cell, h.lt, h.one, h.two⟩
/-- 'u = append(u, x)' at a step of a statement whose order is left open. -/
theorem step_two {ops : Array Oper} {o : Oper} {a : Act} {K : Act → World → Prop} {Q : Exit → Act → World → Prop} {E : Prop} {w1 W : World} {base N : Nat} {u v : Value} {L M : List UInt8} {x : UInt8} (hgd : o.guard = none) (s z : Operand)
    (ho : o.op = .call { callee := .builtin .append, args := #[s, z], argTypes := #[37, 37] })
    (hs : a.eval s = u) (hx : a.eval z = .slice (some ⟨N, 0, none⟩) 1 1) (hD : Dr w1 W base u L v M) (hP : Pend W u v N x) (hlen : L.length < 1000000)
    (h : ∀ g c w', Dr w1 w' base (.slice (some ⟨g, 0, none⟩) (L.length + 1) c) (L ++ [x]) v M → (∀ N' y, Pend W u v N' y → Pend w' (.slice (some ⟨g, 0, none⟩) (L.length + 1) c) v N' y) → K (a.put o.dst (.slice (some ⟨g, 0, none⟩) (L.length + 1) c)) w') :
    if Region.wanted o (yielded ops a.tmps) = true then Oper.wp Try.prog o a W K Q else E := by
  obtain ⟨i0, hi, hz0, hz1, hz2⟩ := info_parts Try.infoB8
  refine step_append_lies W hgd s z 37 ho base 5 i0 (.int .u8 0) 1 1 Try.underlying37 hi hz0 hz1 hz2 rfl (by decide) u _ _ hs hD.one ⟨N, 0, none⟩ 1 1 [bv x] hx rfl ?_ ?_ (by omega) ?_ ?_ hD.size W.heap.size rfl ?_
  · intro j c hj
    match j, hj with
    | 0, hj => simp at hj; subst hj; simp [Addr.add]; exact hP.cell
  · intro c hc; simp at hc; subst hc; rfl
  · unfold maxLen; omega
  · omega
  · intro g c w' h1 h2 h3 h4
    have hne : ∀ k, v.ownBlock = some k → w'.heap[k]? = W.heap[k]? := fun k hk => h2.block k (hD.two.lt_ k hk).2 fun e => hD.apart k e.symm hk
    refine h g c w' ⟨hD.below.grown h2 hD.size fun k hk => (hD.one.lt_ k hk).1, Nat.le_trans hD.size h2.size, ?_, hD.two.of_block hne, ?_⟩ ?_
    · unfold OwnT
      rw [List.map_append, List.length_append]
      exact h1
    · intro k hk hv
      have hk' : g = k := by simpa [Value.ownBlock] using hk
      subst hk'
      rcases h3 with h3 | h3
      · exact hD.apart g h3 hv
      · have := (hD.two.lt_ g hv).2; omega
    · intro N' y hP'
      refine ⟨?_, Nat.lt_of_lt_of_le hP'.lt h2.size, ?_, hP'.two⟩
      · exact (h2.cell_far ⟨N', 0, none⟩ hP'.lt (fun e => hP'.one e.symm)).trans hP'.cell
      · intro e
        have e' : g = N' := by simpa [Value.ownBlock] using e
        subst e'
        rcases h3 with h3 | h3
        · exact hP'.one h3
        · have := hP'.lt; omega
end Go.Proofs.Ytjbpgeakjcmnaaa
