
/-
Rows of phrases (a number and a byte each), the appending of one, and the maps of numbers that a call makes.
-/
import Derived.Test.YtpifmahnlapdbaaPhMem
import Derived.Test.YtpifmahnlapdbaaPhMath
import Derived.Deep.AppendLies
import Derived.Maps.OwnOps
import Derived.Maps.OwnSet
import Derived.Maps.Views
import Derived.DeepKeys4
namespace Go.Proofs.Ytpifmahnlapdbaa
open Go.RowKit Go.Maps

/-- The two cells of a phrase. -/
def phC (p : Ph.P) : List Value := [.int .i64 p.1, .int .u8 (p.2.toNat : Int)]
/-- v is a slice of the call's own that holds the phrases L. -/
def OwnP (w : World) (base : Nat) (v : Value) (L : List Ph.P) : Prop := w.ownsRow base 33 2 v L.length (L.flatMap phC)
theorem OwnP.zero (w : World) (base : Nat) : OwnP w base (.slice none 0 0) [] := World.ownsRow_nil w base _ 2
theorem OwnP.lower {w : World} {base base' : Nat} {v : Value} {L : List Ph.P} (h : OwnP w base v L) (hb : base' ≤ base) : OwnP w base' v L := by
  refine ⟨h.1, ?_⟩
  rcases h.2 with hn | ⟨g, cap, cur, e, h1, rest⟩
  · exact .inl hn
  · exact .inr ⟨g, cap, cur, e, by omega, rest⟩
theorem OwnP.of_block {w w' : World} {base : Nat} {v : Value} {L : List Ph.P} (h : OwnP w base v L) (hb : ∀ k, v.ownBlock = some k → w'.heap[k]? = w.heap[k]?) : OwnP w' base v L := own_of_block h hb
theorem OwnP.lt_ {w : World} {base : Nat} {v : Value} {L : List Ph.P} (h : OwnP w base v L) : ∀ k, v.ownBlock = some k → base ≤ k ∧ k < w.heap.size := fun k hk => World.ownsRow.lt h k hk
theorem OwnP.low {w w' : World} {base : Nat} {v : Value} {L : List Ph.P} (h : OwnP w base v L) (hb : Below w.heap.size w w') : OwnP w' base v L := own_of_block h (fun k hk => hb.block k (h.lt_ k hk).2)
theorem OwnP.alloc {w : World} {base : Nat} {v : Value} {L : List Ph.P} (h : OwnP w base v L) (o : Obj) : OwnP (w.alloc o) base v L := World.ownsRow.alloc h o

theorem ph_flat : ∀ (L : List Ph.P) (k : Nat) (h : k < L.length), (L.flatMap phC)[k * 2]? = some (.int .i64 L[k].1) ∧ (L.flatMap phC)[k * 2 + 1]? = some (.int .u8 (L[k].2.toNat : Int))
  | [], k, h => by simp at h
  | x :: t, 0, _ => by simp [phC]
  | x :: t, k + 1, h => by
    have := ph_flat t k (by simpa using h)
    rw [List.flatMap_cons]
    have hl : (phC x).length = 2 := rfl
    rw [List.getElem?_append_right (by omega), List.getElem?_append_right (by omega), hl, show (k + 1) * 2 - 2 = k * 2 by omega, show (k + 1) * 2 + 1 - 2 = k * 2 + 1 by omega]
    exact this
theorem ph_len (L : List Ph.P) : (L.flatMap phC).length = L.length * 2 := by
  induction L with
  | nil => rfl
  | cons a r ih => rw [List.flatMap_cons, List.length_append, ih, List.length_cons]; show 2 + _ = _; omega

/-- The first n pairs of cells at A hold the phrases h 0, h 1, ..; they lie in blocks that are there. -/
def PRow (w : World) (A : Option Addr) (n : Nat) (h : Nat → Ph.P) : Prop :=
  ∀ k, k < n → ∃ b o, A = some ⟨b, o, none⟩ ∧ b < w.heap.size ∧ w.cell? ⟨b, o + k * 2, none⟩ = some (.int .i64 (h k).1) ∧ w.cell? ⟨b, o + k * 2 + 1, none⟩ = some (.int .u8 ((h k).2.toNat : Int))
theorem PRow.keep {w w' : World} {A : Option Addr} {n : Nat} {h : Nat → Ph.P} (hr : PRow w A n h) (hb : Below w.heap.size w w') : PRow w' A n h := by
  intro k hk
  obtain ⟨b, o, rfl, hlt, h1, h2⟩ := hr k hk
  exact ⟨b, o, rfl, Nat.lt_of_lt_of_le hlt hb.size, (hb.cell (p := ⟨b, o + k * 2, none⟩) hlt).trans h1, (hb.cell (p := ⟨b, o + k * 2 + 1, none⟩) hlt).trans h2⟩
theorem PRow.less {w : World} {A : Option Addr} {n m : Nat} {h : Nat → Ph.P} (hr : PRow w A n h) (hm : m ≤ n) : PRow w A m h := fun k hk => hr k (by omega)
/-- The phrases of such a row. -/
def phs (h : Nat → Ph.P) (n : Nat) : List Ph.P := (List.range n).map h
theorem phs_len (h : Nat → Ph.P) (n : Nat) : (phs h n).length = n := by unfold phs; simp
theorem phs_drop {h : Nat → Ph.P} {n k : Nat} (hk : k < n) : (phs h n).drop k = h k :: (phs h n).drop (k + 1) := by
  have hl : k < (phs h n).length := by rw [phs_len]; exact hk
  rw [List.drop_eq_getElem_cons hl]
  congr 1
  simp [phs]
theorem phs_end (h : Nat → Ph.P) (n : Nat) : (phs h n).drop n = [] := List.drop_eq_nil_of_le (by rw [phs_len]; exact Nat.le_refl _)
theorem phs_of (L : List Ph.P) : phs (fun k => L.getD k (0, 0)) L.length = L := by
  refine List.ext_getElem (phs_len _ _) fun i h1 h2 => ?_
  simp [phs, h2]
theorem phs_take (L : List Ph.P) {k : Nat} (hk : k ≤ L.length) : phs (fun k => L.getD k (0, 0)) k = L.take k := by
  refine List.ext_getElem (by rw [phs_len, List.length_take]; omega) fun i h1 h2 => ?_
  rw [List.length_take] at h2
  simp [phs, show i < L.length by omega]
theorem OwnP.row {w : World} {base : Nat} {v : Value} {L : List Ph.P} (h : OwnP w base v L) : ∃ A c, v = .slice A L.length c ∧ L.length ≤ c ∧ PRow w A L.length (fun k => L.getD k (0, 0)) := by
  have hlt := World.ownsRow.lt h
  rcases h.2 with ⟨rfl, h0⟩ | ⟨g, cap, cur, rfl, h1, h2, h3, h4, h5, h6⟩
  · rw [h0]
    exact ⟨none, 0, rfl, by omega, fun k hk => by omega⟩
  · refine ⟨_, cap, rfl, h3, fun k hk => ⟨g, 0, rfl, (hlt g rfl).2, ?_⟩⟩
    have hf := ph_flat L k hk
    have hcell : ∀ j, j < L.length * 2 → w.cell? ⟨g, j, none⟩ = (L.flatMap phC)[j]? := by
      intro j hj
      rw [← h6, List.getElem?_take, if_pos hj, cell_of_row _ _ _ _ _ _ h2]
      simp
    rw [Nat.zero_add, hcell _ (by omega), hcell _ (by omega), hf.1, hf.2]
    have e : L.getD k (0, 0) = L[k] := by rw [List.getD_eq_getElem?_getD, List.getElem?_eq_getElem hk]; rfl
    simp only [e]
    exact ⟨trivial, trivial⟩

theorem Try.infoPh : (Try.prog.info? 33).map (fun i => (i.zero, i.size, i.bytes)) = some (some (.agg #[.int .i64 0, .int .u8 0]), 2, 16) := by kernel_rfl
/-- 'l = append(l, p)', l a row of the call's own. -/
theorem app_ph {ops : Array Oper} {rest : List Oper} {o : Oper} {a : Act} {Q : Exit → Act → World → Prop} {wr : World} {L : List Ph.P} {x : Int} {y : UInt8} {v : Value} {base : Nat} (hgd : o.guard = none) (s z : Operand)
    (ho : o.op = .call { callee := .builtin .append, args := #[s, z], argTypes := #[22, 22] })
    (hs : a.eval s = v) (hown : OwnP wr base v L) (N : Nat) (hN : wr.heap.size = N) (hx : a.eval z = .slice (some ⟨N, 0, none⟩) 1 1)
    (hbase : base ≤ N) (hlen : L.length < 1000000)
    (h : ∀ g cap w', OwnP w' base (.slice (some ⟨g, 0, none⟩) (L.length + 1) cap) (L ++ [(x, y)]) → wr.grownBy w' v.ownBlock → (v.ownBlock = some g ∨ N < g) → wpList Try.prog ops Q rest (a.put o.dst (.slice (some ⟨g, 0, none⟩) (L.length + 1) cap)) w') :
    wpList Try.prog ops Q (o :: rest) a (wr.alloc (.cells #[.int .i64 x, .int .u8 (y.toNat : Int)] 33)) := by
  subst hN
  obtain ⟨i0, hi, hz0, hz1, hz2⟩ := info_parts Try.infoPh
  refine wpList_append_lies _ hgd s z 22 ho base 33 i0 (.agg #[.int .i64 0, .int .u8 0]) 2 16 Try.underlying22 hi hz0 hz1 hz2 rfl (by decide) v _ _ hs (World.ownsRow.alloc hown _) ⟨wr.heap.size, 0, none⟩ 1 1 (phC (x, y)) hx rfl ?_ ?_ (by omega) ?_ ?_ ?_ (wr.heap.size + 1) (by simp) ?_
  · intro j u hj
    match j, hj with
    | 0, hj => simp [phC] at hj; subst hj; simp [Addr.add]
    | 1, hj => simp [phC] at hj; subst hj; simp [Addr.add]
  · intro u hu
    simp [phC] at hu
    rcases hu with rfl | rfl <;> rfl
  · unfold maxLen; omega
  · omega
  · simp; omega
  · intro g cap w' h1 h2 h3 _
    refine h g cap w' ?_ ?_ ?_
    · unfold OwnP
      rw [List.flatMap_append]
      simpa using h1
    · exact ⟨h2.os, h2.tape, h2.output, Nat.le_trans (by simp) h2.size, fun k hk hne => (h2.block k (by simp; omega) hne).trans (Below.heap_alloc wr _ k hk)⟩
    · rcases h3 with h3 | h3
      · exact .inl h3
      · exact .inr (by omega)

/-! ### maps of numbers -/
theorem zero_int (w : World) : (zeroValue 3).run Try.prog w = .ok (.int .i64 0) w := by kernel_rfl
/-- The keys ks (told as f) stand in the map in block B, each with its place (from o on); G: which keys are spoken of. -/
def MIx {α : Type} [BEq α] (f : α → Lit) (G : α → Prop) (w : World) (k : TypeId) (B o : Nat) (ks : List α) : Prop :=
  ∃ D : DataW Unit, w.ownsMap Try.prog k (plainElem (H := Unit) Try.prog 3) B ks.length D ∧ Maps.IsMap D ∧ ∀ x, G x → Maps.has D (f x) = ks.contains x ∧ (ks.contains x = true → D.atKey (f x) (.lit (.int .i64 0)) = .lit (.int .i64 ((ks.idxOf x + o : Nat) : Int)))
section
variable {α : Type} [BEq α] {f : α → Lit} {G : α → Prop} {w : World} {k t : TypeId} {B o : Nat} {ks : List α}
theorem MIx.new (w : World) : MIx f G (w.alloc (.map #[] 0)) k w.heap.size o ([] : List α) :=
  ⟨_, World.ownsMap_made w _ _ _, isMap_empty, fun x _ => ⟨by simp [Maps.has], fun h => by simp at h⟩⟩
theorem MIx.look (h : MIx f G w k B o ks) (K : Keyed Try.prog k) (ht : Try.prog.underlying t = some (.map k 3)) {key : Value} {x : α} (hk : keyOf Try.prog k key = some (f x)) (hx : G x) :
    (ks.contains x = true → (Instr.lookup t (.map (some B)) key true).run Try.prog w = .ok (.tuple #[.int .i64 ((ks.idxOf x + o : Nat) : Int), .bool true]) w) ∧
    (ks.contains x = false → ∃ c : Int, (Instr.lookup t (.map (some B)) key true).run Try.prog w = .ok (.tuple #[.int .i64 c, .bool false]) w) := by
  obtain ⟨D, h1, h2, h3⟩ := h
  obtain ⟨v, ps, hrun, hv⟩ := h1.look_ok K ht (zero_int w) (plainElem_int (H := Unit) Try.underlying3 (by decide)) hk
  obtain ⟨c, rfl, hc, hwc⟩ := plainElem_int_inv Try.underlying3 hv
  obtain ⟨g1, g2⟩ := h3 x hx
  constructor
  · intro hm
    have e := g2 hm
    simp only [Prod.mk.injEq] at hc
    rw [e] at hc
    have hcc : ((ks.idxOf x + o : Nat) : Int) = c := by simpa only [DataW.lit.injEq, Lit.int.injEq, true_and] using hc.1
    rw [hrun, g1, hcc, hm]
  · intro hm
    refine ⟨c, ?_⟩
    rw [hrun, g1, hm]
/-- The element alone, of a key that is there. -/
theorem MIx.at_ (h : MIx f G w k B o ks) (K : Keyed Try.prog k) (ht : Try.prog.underlying t = some (.map k 3)) {key : Value} {x : α} (hk : keyOf Try.prog k key = some (f x)) (hx : G x) (hm : ks.contains x = true) :
    (Instr.lookup t (.map (some B)) key false).run Try.prog w = .ok (.int .i64 ((ks.idxOf x + o : Nat) : Int)) w := by
  obtain ⟨D, h1, h2, h3⟩ := h
  obtain ⟨c, hrun, hat, _⟩ := h1.lookup_int K ht Try.underlying3 (zero_int w) hk
  rw [(h3 x hx).2 hm] at hat
  have hcc : ((ks.idxOf x + o : Nat) : Int) = c := by simpa only [DataW.lit.injEq, Lit.int.injEq, true_and] using hat
  rw [hrun, hcc]
theorem MIx.put [LawfulBEq α] (h : MIx f G w k B o ks) (hK : ks.length ≤ 1000000) (K : Keyed Try.prog k) (ht : Try.prog.underlying t = some (.map k 3)) (hinj : ∀ x y, G x → G y → f x = f y → x = y) {key : Value} {x : α} (hk : keyOf Try.prog k key = some (f x)) (hx : G x) (hn : ks.contains x = false) {v : Nat} (hv : v = ks.length + o) (ho : o ≤ 1) :
    ∃ w', (Instr.mapUpdate t (.map (some B)) key (.int .i64 (v : Int))).run Try.prog w = .ok () w' ∧ MIx f G w' k B o (ks ++ [x]) ∧ w.grownBy w' (some B) := by
  obtain ⟨D, h1, h2, h3⟩ := h
  have hkl := K.key hk
  have hn' : x ∉ ks := fun hm => by rw [List.contains_iff_mem.2 hm] at hn; exact absurd hn (by decide)
  obtain ⟨w', hrun, hown, hg⟩ := h1.update K ht (by unfold maxLen; omega) hk (plainElem_int Try.underlying3 (WalkArith.wf_i64 (n := (v : Int)) ⟨by omega, by omega⟩))
  refine ⟨w', hrun, ⟨_, by rw [List.length_append, List.length_singleton]; exact hown, h2.put _ _, fun y hy => ?_⟩, hg⟩
  by_cases e : y = x
  · subst e
    refine ⟨by rw [has_put_same h2 hkl]; simp, fun _ => ?_⟩
    rw [atKey_put_same h2 hkl, hv, List.idxOf_append, if_neg hn']
    simp
  · have e' : f y ≠ f x := fun he => e (hinj y x hy hx he)
    obtain ⟨g1, g2⟩ := h3 y hy
    refine ⟨by rw [has_put_other e', g1]; simp [e], fun hm => ?_⟩
    have hm' : y ∈ ks := by
      rcases List.mem_append.1 (List.contains_iff_mem.1 hm) with h | h
      · exact h
      · exact absurd (List.mem_singleton.1 h) e
    rw [atKey_put_other e', g2 (List.contains_iff_mem.2 hm'), List.idxOf_append, if_pos hm']
theorem MIx.keep {w' : World} {X : Nat} (h : MIx f G w k B o ks) (hb : Below X w w') (hB : B < X) : MIx f G w' k B o ks := by
  obtain ⟨D, ⟨es, clock, h2, h2'⟩, h3⟩ := h
  exact ⟨D, ⟨es, clock, (hb.block B hB).trans h2, h2'⟩, h3⟩
theorem MIx.grown {w' : World} {row : Option Nat} (h : MIx f G w k B o ks) (hg : w.grownBy w' row) (hne : some B ≠ row) : MIx f G w' k B o ks := by
  obtain ⟨D, h1, h2⟩ := h
  exact ⟨D, h1.kept hg hne, h2⟩
theorem MIx.lt (h : MIx f G w k B o ks) : B < w.heap.size := by
  obtain ⟨D, h1, h2⟩ := h
  exact h1.lt
end
end Go.Proofs.Ytpifmahnlapdbaa
