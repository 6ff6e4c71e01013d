
/-
strings.Builder beside rows of numbers: each leaves the other as it is.
-/
import Derived.Test.YtgkagigagcamoaaBuild
import Derived.Test.YtgkagigagcamoaaSeg6
import Derived.Shelf.Strings.BuilderK
namespace Go.Proofs.Ytgkagigagcamoaa
open Go.RowKit

theorem build_writek (B b : Nat) (bs : List Value) (s : ByteArray) (w : World) (h : Lib.IsBuilderF 89 5 B b bs w) (hlen : bs.length + s.size ≤ 140737488355328) (hBw : B ≤ w.heap.size) :
    Calls Try.prog 56 #[.pointer (some ⟨b, 0, none⟩), .string s] w fun e w' => e = .returned (.tuple #[.int .i64 s.size, .nilIface]) ∧ Lib.IsBuilderF 89 5 B b (bs ++ Lib.strCells s) w' ∧ Below B w w' ∧ Lib.OthersKept 5 (some b) w w' := by
  refine (Any.Builder_WriteString_k Try.lays166 Try.Builder_Extra_166 B b bs s w h hlen hBw).mono ?_
  rintro e w1 ⟨rfl, h1, h2, h3⟩
  exact ⟨rfl, .inr h1, h2, h3⟩
theorem build_stringk (B b : Nat) (l : List UInt8) (w : World) (h : Lib.IsBuilderF 89 5 B b (Lib.byteCells l) w) (hBw : B ≤ w.heap.size) :
    Calls Try.prog 57 #[.pointer (some ⟨b, 0, none⟩)] w fun e w' => e = .returned (.string ⟨l.toArray⟩) ∧ Below B w w' ∧ Lib.OthersKept 5 (some b) w w' := by
  refine (Any.Builder_String_any_k Try.lays169 Try.Builder_Extra_169 B b l w h hBw).mono ?_
  rintro e w1 ⟨rfl, _, h2, h3⟩
  exact ⟨rfl, h2, h3⟩
/-- A change in a row of numbers leaves the builder as it was. -/
theorem bld_grown {B b : Nat} {bs : List Value} {w w' : World} {row : Option Nat} (h : Lib.IsBuilderF 89 5 B b bs w) (hg : w.grownBy w' row) (hr : ∀ j, row = some j → ∃ c fz, w.heap[j]? = some (.cells c 3 fz)) : Lib.IsBuilderF 89 5 B b bs w' := by
  have key : ∀ p, Lib.BuilderAtF 89 5 B b p bs w → Lib.BuilderAtF 89 5 B b p bs w' := by
    rintro p ⟨h1, v, h2, h3, h4⟩
    have blk : ∀ (k : Nat) (t : TypeId) (c : Array Value) (fz : Nat × Nat), w.heap[k]? = some (Obj.cells c t fz) → t ≠ 3 → w'.heap[k]? = some (Obj.cells c t fz) := by
      intro k t c fz hk ht
      obtain ⟨hlt, _⟩ := Array.getElem?_eq_some_iff.1 hk
      refine (hg.block k hlt fun e => ?_).trans hk
      obtain ⟨c', fz', hj⟩ := hr k e.symm
      rw [hk] at hj
      injection hj with hj
      injection hj with _ hj
      exact ht hj
    refine ⟨h1, v, blk _ _ _ _ h2 (by decide), ⟨h3.1, ?_⟩, h4⟩
    rcases h3.2 with h5 | ⟨g, cap, cur, fz, e1, e2, e3, e4⟩
    · exact .inl h5
    · exact .inr ⟨g, cap, cur, fz, e1, e2, blk _ _ _ _ e3 (by decide), e4⟩
  exact h.elim (fun x => .inl (key _ x)) (fun x => .inr (key _ x))
/-- The builder's changes leave a row of numbers as it was. -/
theorem OwnI.others {w w' : World} {base b : Nat} {v : Value} {L : List Int} (h : OwnI w base v L) (hk : Lib.OthersKept 5 (some b) w w') (hb : ∃ c t fz, w.heap[b]? = some (.cells c t fz) ∧ t ≠ 3) : OwnI w' base v L := by
  refine ⟨h.1, ?_⟩
  rcases h.2 with h1 | ⟨g, cap, cur, e1, e2, e3, e4⟩
  · exact .inl h1
  · refine .inr ⟨g, cap, cur, e1, e2, hk g _ e3 (fun e => ?_) (fun c fz e => ?_), e4⟩
    · injection e with e
      subst e
      obtain ⟨c, t, fz, h1, h2⟩ := hb
      rw [e3] at h1
      injection h1 with h1
      injection h1 with _ h1
      exact h2 h1.symm
    · injection e with _ e
      exact absurd e (by decide)
theorem bld_block {B b : Nat} {bs : List Value} {w : World} (h : Lib.IsBuilderF 89 5 B b bs w) : ∃ c t fz, w.heap[b]? = some (.cells c t fz) ∧ t ≠ 3 := by
  rcases h with ⟨_, v, h, _⟩ | ⟨_, v, h, _⟩
  · exact ⟨_, _, _, h, by decide⟩
  · exact ⟨_, _, _, h, by decide⟩
/-- 'out = append(out, n)': .. and what else turned. -/
theorem app_intg {ops : Array Oper} {rest : List Oper} {o : Oper} {a : Act} {Q : Exit → Act → World → Prop} {wr : World} {L : List Int} {n : Int} {v : Value} {base : Nat} (hgd : o.guard = none) (s x : Operand)
    (ho : o.op = .call { callee := .builtin .append, args := #[s, x], argTypes := #[119, 119] })
    (hs : a.eval s = v) (hown : OwnI wr base v L) (N : Nat) (hN : wr.heap.size = N) (hx : a.eval x = .slice (some ⟨N, 0, none⟩) 1 1)
    (hbase : base ≤ N) (hlen : L.length < 1000000)
    (h : ∀ v' w', OwnI w' base v' (L ++ [n]) → Below base wr w' → wr.grownBy w' v.ownBlock → wpList Try.prog ops Q rest (a.put o.dst v') w') :
    wpList Try.prog ops Q (o :: rest) a (wr.alloc (.cells #[.int .i64 n] 3)) := by
  subst hN
  obtain ⟨i0, hi, hz0, hz1, hz2⟩ := info_parts Try.infoInt
  refine wpList_append_own _ hgd s x 119 ho base 3 i0 (.int .i64 0) 1 8 Try.underlying119 hi hz0 hz1 hz2 rfl (by decide) v _ _ hs (World.ownsRow.alloc hown _) ⟨wr.heap.size, 0, none⟩ 1 1 [.int .i64 n] hx rfl ?_ ?_ ?_ ?_ ?_ ?_
  · intro j u hj
    match j, hj with
    | 0, hj => simp at hj; subst hj; simp [Addr.add]
  · intro u hu; simp at hu; subst hu; rfl
  · unfold maxLen; omega
  · omega
  · simp; omega
  · intro v' w' h1 h2 _
    refine h v' w' (by unfold OwnI; simpa using h1) ?_ ?_
    · have hb : Below base wr (wr.alloc (.cells #[.int .i64 n] 3)) := (Below.refl _ _).alloc hbase _
      exact hb.grown h2 (by simp; omega) fun k hk => ((World.ownsRow.lt hown k hk).1)
    · have h3 := World.grownBy_alloc wr (.cells #[.int .i64 n] 3) v.ownBlock
      exact ⟨h2.os.trans h3.os, h2.tape.trans h3.tape, h2.output.trans h3.output, Nat.le_trans h3.size h2.size, fun i hi hne => (h2.block i (Nat.lt_of_lt_of_le hi h3.size) hne).trans (h3.block i hi hne)⟩
theorem OwnI.block {w : World} {base : Nat} {v : Value} {L : List Int} (h : OwnI w base v L) : ∀ j, v.ownBlock = some j → ∃ c fz, w.heap[j]? = some (.cells c 3 fz) := by
  intro j hj
  rcases h.2 with ⟨rfl, _⟩ | ⟨g, cap, cur, rfl, e2, e3, e4⟩
  · cases hj
  · have : g = j := by simpa [Value.ownBlock] using hj
    subst this
    exact ⟨_, _, e3⟩
end Go.Proofs.Ytgkagigagcamoaa
