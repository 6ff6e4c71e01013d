/-
The contracts of slices.IndexFunc and slices.DeleteFunc at rows of hits, with TrieMore's test.
-/
import Derived.Test.YthfbilaklllelaaCloneH
namespace Go.Proofs.Ythfbilaklllelaa
open Go.RowKit

/-- Block g holds the hits r 0, r 1, .. r (m - 1), none frozen. -/
def RowH (w : World) (g m : Nat) (r : Nat → Nat × Nat) : Prop := ∃ n f, w.rowIs g 36 n f ∧ m * 2 ≤ n ∧ ∀ k, k < m → f (k * 2) = .int .i64 ((r k).1 : Int) ∧ f (k * 2 + 1) = .int .i64 ((r k).2 : Int)
theorem RowH.of_block {w w' : World} {g m : Nat} {r : Nat → Nat × Nat} (h : RowH w g m r) (e : w'.heap[g]? = w.heap[g]?) : RowH w' g m r := by
  obtain ⟨n, f, h1, h2, h3⟩ := h
  exact ⟨n, f, h1.of_block e, h2, h3⟩
theorem RowH.lt {w : World} {g m : Nat} {r : Nat → Nat × Nat} (h : RowH w g m r) : g < w.heap.size := by
  obtain ⟨n, f, h1, _⟩ := h
  exact h1.lt
theorem RowH.alloc {w : World} {g m : Nat} {r : Nat → Nat × Nat} (h : RowH w g m r) (o : Obj) : RowH (w.alloc o) g m r := h.of_block (Below.heap_alloc w o g h.lt)
theorem RowH.cells {w : World} {g m : Nat} {r : Nat → Nat × Nat} (h : RowH w g m r) {k : Nat} (hk : k < m) : w.cell? ⟨g, k * 2, none⟩ = some (.int .i64 ((r k).1 : Int)) ∧ w.cell? ⟨g, k * 2 + 1, none⟩ = some (.int .i64 ((r k).2 : Int)) := by
  obtain ⟨n, f, h1, h2, h3⟩ := h
  rw [h1.cell (i := k * 2) (by omega), h1.cell (i := k * 2 + 1) (by omega), (h3 k hk).1, (h3 k hk).2]
  exact ⟨rfl, rfl⟩
theorem RowH.frozen {w : World} {g m : Nat} {r : Nat → Nat × Nat} (h : RowH w g m r) (i : Nat) : w.frozen? ⟨g, i, none⟩ = false := by
  obtain ⟨n, f, h1, _⟩ := h
  exact h1.frozen i
theorem RowH.set {w : World} {g m : Nat} {r : Nat → Nat × Nat} (h : RowH w g m r) (i : Nat) (x : Nat × Nat) :
    RowH ((w.setCell ⟨g, i * 2, none⟩ (.int .i64 (x.1 : Int))).setCell ⟨g, i * 2 + 1, none⟩ (.int .i64 (x.2 : Int))) g m (fun k => if k = i then x else r k) := by
  obtain ⟨n, f, h1, h2, h3⟩ := h
  refine ⟨n, _, (h1.set (i * 2) _).set (i * 2 + 1) _, h2, fun k hk => ?_⟩
  by_cases e : k = i
  · subst e
    simp
  · have e1 : ¬ k * 2 = i * 2 + 1 := by omega
    have e2 : ¬ k * 2 = i * 2 := by omega
    have e3 : ¬ k * 2 + 1 = i * 2 + 1 := by omega
    have e4 : ¬ k * 2 + 1 = i * 2 := by omega
    simp only [e1, e2, e3, e4, e, if_false]
    exact h3 k hk
theorem RowH.fewer {w : World} {g m m' : Nat} {r : Nat → Nat × Nat} (h : RowH w g m r) (hm : m' ≤ m) : RowH w g m' r := by
  obtain ⟨n, f, h1, h2, h3⟩ := h
  exact ⟨n, f, h1, by omega, fun k hk => h3 k (by omega)⟩
theorem RowH.congr {w : World} {g m : Nat} {r r' : Nat → Nat × Nat} (h : RowH w g m r) (e : ∀ k, k < m → r k = r' k) : RowH w g m r' := by
  obtain ⟨n, f, h1, h2, h3⟩ := h
  exact ⟨n, f, h1, h2, fun k hk => by rw [← e k hk]; exact h3 k hk⟩
theorem RowH.row {w : World} {g m : Nat} {r : Nat → Nat × Nat} (h : RowH w g m r) : HRow w (some ⟨g, 0, none⟩) m r := by
  intro k hk
  refine ⟨g, 0, rfl, h.lt, ?_⟩
  rw [Nat.zero_add]
  exact h.cells hk
theorem OwnH.rowH {w : World} {base g m cap : Nat} {H : List (Nat × Nat)} (h : OwnH w base (.slice (some ⟨g, 0, none⟩) m cap) H) (hm : m = H.length) : RowH w g m (fun k => H.getD k (0, 0)) := by
  rcases h.2 with ⟨h0, _⟩ | ⟨g', cap', cur, e, h1, h2, h3, h4, h5, h6⟩
  · cases h0
  · cases e
    refine ⟨cur.size, fun i => cur.toList.getD i (.bool false), ⟨cur, h2, rfl, fun i hi => ?_⟩, by omega, fun k hk => ?_⟩
    · show cur[i]? = some (cur.toList.getD i (.bool false))
      rw [List.getD_eq_getElem?_getD, Array.getElem?_toList, Array.getElem?_eq_getElem hi]
      rfl
    · have hk' : k < H.length := by omega
      have hf := flat_at H k hk'
      rw [← h6, List.getElem?_take, List.getElem?_take, if_pos (by omega), if_pos (by omega)] at hf
      have e : H.getD k (0, 0) = H[k] := getD_lt hk'
      simp only [e, List.getD_eq_getElem?_getD, hf.1, hf.2]
      exact ⟨rfl, rfl⟩

theorem more_clo (N : Nat) (A : Option Addr) (n c : Nat) (x : Nat × Nat) (w : World) (hN : w.cell? ⟨N, 0, none⟩ = some (.slice A n c)) (hl : N < w.heap.size) :
    Calls Try.prog 23 #[.agg #[.int .i64 (x.1 : Int), .int .i64 (x.2 : Int)], .pointer (some ⟨N, 0, none⟩)] w fun e w' => e = .returned (.bool (decide (x.2 = n))) ∧ Below w.heap.size w w' := by
  go_enter Try.func23, Try.ntmps23
  have hb : ((x.2 : Int) == (n : Int)) = decide (x.2 = n) := by
    by_cases h : x.2 = n
    · rw [h]; simp
    · rw [decide_eq_false h, beq_eq_false_iff_ne]
      omega
  have HB := hid hb
  clear hb
  go_wp2
  go_ret
  exact ⟨ret_bool HB.out, bl_new w _⟩

theorem more_idx (N : Nat) (A1 : Option Addr) (n c1 : Nat) (A : Option Addr) (m c : Nat) (h : Nat → Nat × Nat) (w : World) (hN : w.cell? ⟨N, 0, none⟩ = some (.slice A1 n c1)) (hl : N < w.heap.size) (hr : HRow w A m h) (hm : m ≤ 1000000) :
    Calls Try.prog 43 #[.slice A m c, .func (.func 23) #[] #[.pointer (some ⟨N, 0, none⟩)]] w fun e w' =>
      Below w.heap.size w w' ∧ ((e = .returned (.int .i64 (-1)) ∧ ∀ k, k < m → (h k).2 ≠ n) ∨ ∃ i, i < m ∧ e = .returned (.int .i64 (i : Int)) ∧ (h i).2 = n ∧ ∀ k, k < i → (h k).2 ≠ n) := by
  have HR := hid hr
  have HN := hid hN
  clear hr hN
  go_enter Try.func43, Try.ntmps43
  go_wp2
  go_loopw [8] (fun i wr => ∃ k : Nat, k ≤ m ∧ i = .int .i64 k ∧ Hid (∀ j, j < k → (h j).2 ≠ n) ∧ Below w.heap.size w wr) (fun i _ => m - (intOf i).toNat)
  case atStart => exact ⟨0, by omega, rfl, hid (fun j hj => by omega), Below.refl _ _⟩
  case round =>
    obtain ⟨k, hk, rfl, HZ, hbel⟩ := hrel
    by_cases hkm : k < m
    · obtain ⟨b, o, rfl, hlt, h1, h2⟩ := (HR.out.keep hbel) k hkm
      have HNr := hid ((hbel.cell (p := ⟨N, 0, none⟩) hl).trans HN.out)
      have hl2 : N < wr.heap.size := Nat.lt_of_lt_of_le hl hbel.size
      go_wp2_with fail
      with_reducible refine (more_clo _ _ _ _ (h k) _ HNr.out hl2).mono ?_
      rintro e w1 ⟨rfl, hb1⟩
      by_cases hx : (h k).2 = n
      · rw [decide_eq_true hx]
        have HX := hid hx
        clear hx
        go_wp2
        go_ret
        exact ⟨bl_then hbel hb1, .inr ⟨k, hkm, rfl, HX.out, HZ.out⟩⟩
      · rw [decide_eq_false hx]
        have HX := hid hx
        clear hx
        go_wp2
        go_roundw
        case measure => simp [intOf]; omega
        case rel =>
          refine ⟨k + 1, by omega, by go_num, hid (fun j hj => ?_), bl_then hbel hb1⟩
          by_cases e : j = k
          · rw [e]; exact HX.out
          · exact HZ.out j (by omega)
    · obtain rfl : k = m := by omega
      go_wp2
      go_ret
      exact ⟨hbel, .inl ⟨rfl, HZ.out⟩⟩

theorem RowH.clear {w : World} {g m : Nat} {r : Nat → Nat × Nat} (h : RowH w g m r) (i k c : Nat) (hik : i + k ≤ m) (hk : 0 < k) (ty : TypeId) :
    ∃ w', (Builtin.clear_ #[23] ty #[.slice (some ⟨g, i * 2, none⟩) k c]).run Try.prog w = .ok (.tuple #[]) w' ∧ RowH w' g i r ∧ w.grownBy w' (some g) := by
  obtain ⟨n, f, ⟨cur, hc, hcl, hcf⟩, h2, h3⟩ := h
  obtain ⟨i0, hi, hz0, hz1, hz2⟩ := info_parts Try.infoHit
  have hv : ∀ w, (zeroValue 36).run Try.prog w = .ok (.agg #[.int .i64 0, .int .i64 0]) w := fun w => by
    simp [zeroValue, typeInfo, hi, hz0]
  obtain ⟨vs, hvs⟩ : ∃ vs, vs = (Builtin.zeroCells (Value.agg #[.int .i64 0, .int .i64 0]).cells k).toList := ⟨_, rfl⟩
  have hsz : (Value.agg #[.int .i64 0, .int .i64 0]).cells = #[.int .i64 0, .int .i64 0] := by rfl
  have hvl : vs.length = k * 2 := by rw [hvs, hsz]; simp [Builtin.zeroCells]
  have hv1 : ∀ v ∈ vs, v.oneCell' = true := by
    intro v hv
    rw [hvs, hsz] at hv
    simp only [Builtin.zeroCells, Array.toList_map, List.mem_map] at hv
    obtain ⟨j, _, rfl⟩ := hv
    have : j % 2 < 2 := Nat.mod_lt _ (by omega)
    rcases Nat.mod_two_eq_zero_or_one j with e | e
    · simp [e, Value.oneCell']
    · simp [e, Value.oneCell']
  have hst := run_storeCells_at (P := Try.prog) g (i * 2) 36 vs 0 cur w hc (by rw [hvl, hcl]; omega) hv1
  simp only [Nat.add_zero] at hst
  obtain ⟨R, hR⟩ : ∃ R, R = cur.toList.take (i * 2) ++ vs ++ cur.toList.drop (i * 2 + vs.length) := ⟨_, rfl⟩
  rw [← hR] at hst
  have hRl : R.length = n := by rw [hR]; simp; omega
  have hget : ∀ q, q < i * 2 → R.getD q (.bool false) = f q := by
    intro q hq
    rw [List.getD_eq_getElem?_getD, hR, List.append_assoc, List.getElem?_append_left (by simp; omega), List.getElem?_take, if_pos hq, Array.getElem?_toList, hcf q (by omega)]
    rfl
  refine ⟨w.setRow g R.toArray, ?_, ⟨n, fun j => R.getD j (.bool false), ⟨R.toArray, setRow_heap w g _ _ 36 _ hc, by simpa using hRl, fun j hj => ?_⟩, by omega, fun q hq => ?_⟩, ?_⟩
  · obtain ⟨k', rfl⟩ : ∃ k', k = k' + 1 := ⟨k - 1, by omega⟩
    simp [Builtin.clear_, run_underlying Try.underlying23, hv, ← hvs, hst]
  · show R.toArray[j]? = some (R.getD j (.bool false))
    rw [getD_lt (by omega)]
    simp [hRl, hj]
  · show R.getD (q * 2) (.bool false) = _ ∧ R.getD (q * 2 + 1) (.bool false) = _
    rw [hget (q * 2) (by omega), hget (q * 2 + 1) (by omega)]
    exact h3 q (by omega)
  · exact ⟨rfl, rfl, rfl, by simp [World.setRow], fun b _ hb => setRow_other w g b _ (fun e => hb (by rw [e]))⟩
theorem wpList_clear_hits {ops : Array Oper} {rest : List Oper} {o : Oper} {a : Act} {Q : Exit → Act → World → Prop} {w : World} {g m : Nat} {r : Nat → Nat × Nat} (hgd : o.guard = none) (s : Operand)
    (ho : o.op = .call { callee := .builtin .clear, args := #[s], argTypes := #[23] }) (i k c : Nat) (hs : a.eval s = .slice (some ⟨g, i * 2, none⟩) k c) (h : RowH w g m r) (hik : i + k ≤ m) (hk : 0 < k)
    (hK : ∀ w', Hid (RowH w' g i r) → Hid (w.grownBy w' (some g)) → wpList Try.prog ops Q rest (a.put o.dst (.tuple #[])) w') : wpList Try.prog ops Q (o :: rest) a w := by
  refine wpList_plain hgd fun K hK' => ?_
  obtain ⟨w', hrun, h2, h3⟩ := h.clear i k c hik hk o.type
  unfold Oper.wp
  simp [execOp, ho, resolve, invoke, builtin, hs, hrun, Result.andThen]
  exact hK' _ _ (hK w' h2 h3)
end Go.Proofs.Ythfbilaklllelaa
