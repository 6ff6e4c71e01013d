/-
Rows of hits (a position and an index each), and the appending of one.
-/
import Derived.Test.YtcnfdmpggnhlgaaTrieMath
import Derived.Deep.AppendLies
namespace Go.Proofs.Ytcnfdmpggnhlgaa
open Go.RowKit

/-- The two cells of a hit. -/
def hitC (h : Nat × Nat) : List Value := [.int .i64 (h.1 : Int), .int .i64 (h.2 : Int)]
/-- v is a slice of the call's own that holds the hits H. -/
def OwnH (w : World) (base : Nat) (v : Value) (H : List (Nat × Nat)) : Prop := w.ownsRow base 55 2 v H.length (H.flatMap hitC)
theorem OwnH.zero (w : World) (base : Nat) : OwnH w base (.slice none 0 0) [] := World.ownsRow_nil w base _ 2
theorem OwnH.lower {w : World} {base base' : Nat} {v : Value} {H : List (Nat × Nat)} (h : OwnH w base v H) (hb : base' ≤ base) : OwnH w base' v H := by
  refine ⟨h.1, ?_⟩
  rcases h.2 with hn | ⟨g, cap, cur, e, h1, rest⟩
  · exact .inl hn
  · exact .inr ⟨g, cap, cur, e, by omega, rest⟩
theorem OwnH.of_block {w w' : World} {base : Nat} {v : Value} {H : List (Nat × Nat)} (h : OwnH w base v H) (hb : ∀ k, v.ownBlock = some k → w'.heap[k]? = w.heap[k]?) : OwnH w' base v H := own_of_block h hb
theorem OwnH.below {w w' : World} {base : Nat} {v : Value} {H : List (Nat × Nat)} (h : OwnH w base v H) (hb : Below w.heap.size w w') : OwnH w' base v H := own_of_block h (fun k hk => hb.block k (h.lt k hk).2)
theorem OwnI.of_block {w w' : World} {base : Nat} {v : Value} {L : List Int} (h : OwnI w base v L) (hb : ∀ k, v.ownBlock = some k → w'.heap[k]? = w.heap[k]?) : OwnI w' base v L := own_of_block h hb

theorem flat_at : ∀ (H : List (Nat × Nat)) (k : Nat) (h : k < H.length), (H.flatMap hitC)[k * 2]? = some (.int .i64 (H[k].1 : Int)) ∧ (H.flatMap hitC)[k * 2 + 1]? = some (.int .i64 (H[k].2 : Int))
  | [], k, h => by simp at h
  | x :: t, 0, _ => by simp [hitC]
  | x :: t, k + 1, h => by
    have := flat_at t k (by simpa using h)
    rw [List.flatMap_cons]
    have hl : (hitC x).length = 2 := rfl
    rw [List.getElem?_append_right (by omega), List.getElem?_append_right (by omega), hl, show (k + 1) * 2 - 2 = k * 2 by omega, show (k + 1) * 2 + 1 - 2 = k * 2 + 1 by omega]
    exact this

/-- The first n pairs of cells at A hold the hits h 0, h 1, ..; they lie in blocks that are there. -/
def HRow (w : World) (A : Option Addr) (n : Nat) (h : Nat → Nat × Nat) : Prop :=
  ∀ k, k < n → ∃ b o, A = some ⟨b, o, none⟩ ∧ b < w.heap.size ∧ w.cell? ⟨b, o + k * 2, none⟩ = some (.int .i64 ((h k).1 : Int)) ∧ w.cell? ⟨b, o + k * 2 + 1, none⟩ = some (.int .i64 ((h k).2 : Int))
theorem HRow.keep {w w' : World} {A : Option Addr} {n : Nat} {h : Nat → Nat × Nat} (hr : HRow w A n h) (hb : Below w.heap.size w w') : HRow w' A n h := by
  intro k hk
  obtain ⟨b, o, rfl, hlt, h1, h2⟩ := hr k hk
  exact ⟨b, o, rfl, Nat.lt_of_lt_of_le hlt hb.size, (hb.cell (p := ⟨b, o + k * 2, none⟩) hlt).trans h1, (hb.cell (p := ⟨b, o + k * 2 + 1, none⟩) hlt).trans h2⟩
theorem OwnH.row {w : World} {base : Nat} {v : Value} {H : List (Nat × Nat)} (h : OwnH w base v H) : ∃ A c, v = .slice A H.length c ∧ H.length ≤ c ∧ HRow w A H.length (fun k => H.getD k (0, 0)) := by
  have hlt := World.ownsRow.lt h
  rcases h.2 with ⟨rfl, h0⟩ | ⟨g, cap, cur, rfl, h1, h2, h3, h4, h5, h6⟩
  · rw [h0]
    exact ⟨none, 0, rfl, by omega, fun k hk => by omega⟩
  · refine ⟨_, cap, rfl, h3, fun k hk => ⟨g, 0, rfl, (hlt g rfl).2, ?_⟩⟩
    have hf := flat_at H k hk
    have hcell : ∀ j, j < H.length * 2 → w.cell? ⟨g, j, none⟩ = (H.flatMap hitC)[j]? := by
      intro j hj
      rw [← h6, List.getElem?_take, if_pos hj, cell_of_row _ _ _ _ _ _ h2]
      simp
    rw [Nat.zero_add, hcell _ (by omega), hcell _ (by omega), hf.1, hf.2]
    have e : H.getD k (0, 0) = H[k] := getD_lt hk
    simp only [e]
    exact ⟨trivial, trivial⟩

theorem Try.infoHit : (Try.prog.info? 55).map (fun i => (i.zero, i.size, i.bytes)) = some (some (.agg #[.int .i64 0, .int .i64 0]), 2, 16) := by kernel_rfl
/-- 'hits = append(hits, api.Hit{..})', hits a row of the call's own. -/
theorem app_hit {ops : Array Oper} {rest : List Oper} {o : Oper} {a : Act} {Q : Exit → Act → World → Prop} {wr : World} {H : List (Nat × Nat)} {x y : Nat} {v : Value} {base : Nat} (hgd : o.guard = none) (s z : Operand)
    (ho : o.op = .call { callee := .builtin .append, args := #[s, z], argTypes := #[49, 49] })
    (hs : a.eval s = v) (hown : OwnH wr base v H) (N : Nat) (hN : wr.heap.size = N) (hx : a.eval z = .slice (some ⟨N, 0, none⟩) 1 1)
    (hbase : base ≤ N) (hlen : H.length < 1000000)
    (h : ∀ g cap w', OwnH w' base (.slice (some ⟨g, 0, none⟩) (H.length + 1) cap) (H ++ [(x, y)]) → wr.grownBy w' v.ownBlock → (v.ownBlock = some g ∨ N < g) → wpList Try.prog ops Q rest (a.put o.dst (.slice (some ⟨g, 0, none⟩) (H.length + 1) cap)) w') :
    wpList Try.prog ops Q (o :: rest) a (wr.alloc (.cells #[.int .i64 (x : Int), .int .i64 (y : Int)] 55)) := by
  subst hN
  obtain ⟨i0, hi, hz0, hz1, hz2⟩ := info_parts Try.infoHit
  refine wpList_append_lies _ hgd s z 49 ho base 55 i0 (.agg #[.int .i64 0, .int .i64 0]) 2 16 Try.underlying49 hi hz0 hz1 hz2 rfl (by decide) v _ _ hs (World.ownsRow.alloc hown _) ⟨wr.heap.size, 0, none⟩ 1 1 (hitC (x, y)) hx rfl ?_ ?_ (by omega) ?_ ?_ ?_ (wr.heap.size + 1) (by simp) ?_
  · intro j u hj
    match j, hj with
    | 0, hj => simp [hitC] at hj; subst hj; simp [Addr.add]
    | 1, hj => simp [hitC] at hj; subst hj; simp [Addr.add]
  · intro u hu
    simp [hitC] at hu
    rcases hu with rfl | rfl <;> rfl
  · unfold maxLen; omega
  · omega
  · simp; omega
  · intro g cap w' h1 h2 h3 _
    refine h g cap w' ?_ ?_ ?_
    · unfold OwnH
      rw [List.flatMap_append]
      simpa using h1
    · exact ⟨h2.os, h2.tape, h2.output, Nat.le_trans (by simp) h2.size, fun k hk hne => (h2.block k (by simp; omega) hne).trans (Below.heap_alloc wr _ k hk)⟩
    · rcases h3 with h3 | h3
      · exact .inl h3
      · exact .inr (by omega)

/-- The hits at the first k positions of l. -/
def hitsL (g : Nat → ByteArray) (n : Nat) (l : (List UInt8)) (k : Nat) : List (Nat × Nat) := (List.range k).flatMap fun a => (begins g n (l.drop a)).map fun j => (a, j)
theorem hitsL_next (g : Nat → ByteArray) (n : Nat) (l : (List UInt8)) (k : Nat) : hitsL g n l (k + 1) = hitsL g n l k ++ (begins g n (l.drop k)).map fun j => (k, j) := by
  unfold hitsL
  rw [List.range_succ, List.flatMap_append]
  simp
theorem begins_len (g : Nat → ByteArray) (n : Nat) (l : (List UInt8)) : (begins g n l).length ≤ n := by
  unfold begins
  refine Nat.le_trans (List.length_filter_le _ _) (by simp)
theorem hitsL_len (g : Nat → ByteArray) (n : Nat) (l : (List UInt8)) : ∀ k, (hitsL g n l k).length ≤ k * n
  | 0 => by simp [hitsL]
  | k + 1 => by
    rw [hitsL_next, List.length_append, List.length_map, Nat.succ_mul]
    have := hitsL_len g n l k
    have := begins_len g n (l.drop k)
    omega
end Go.Proofs.Ytcnfdmpggnhlgaa
