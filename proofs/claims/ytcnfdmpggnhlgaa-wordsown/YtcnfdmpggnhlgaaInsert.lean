/-
The contract of slices.Insert at the trie's nodes, for one node, into a row of the program's own.
-/
import Derived.Test.YtcnfdmpggnhlgaaStr
import Derived.Lib.Overlaps
import Derived.Lib.AppendZerosOnto
import Derived.Laws.CopyOwn
import Derived.Deep.RegionLaw
import Derived.Deep.AppendLies
namespace Go.Proofs.Ytcnfdmpggnhlgaa
open Go.RowKit

theorem Try.infoNode : (Try.prog.info? 90).map (fun i => (i.zero, i.size, i.bytes)) = some (some (.pointer none), 1, 8) := by kernel_rfl

/-- What Insert leaves: the row xs; only the row's own block may have changed. -/
def Put1 (w : World) (base : Nat) (v : Value) (n : Nat) (xs : List Value) (e : Ending) (w' : World) : Prop :=
  ∃ g cap, e = .returned (.slice (some ⟨g, 0, none⟩) n cap) ∧ w'.ownsRow base 90 1 (.slice (some ⟨g, 0, none⟩) n cap) n xs ∧ w.grownBy w' v.ownBlock ∧ (v.ownBlock = some g ∨ w.heap.size ≤ g)

set_option maxRecDepth 100000 in
theorem insert_end (A : Option Addr) (n c : Nat) (xs : List Value) (x : Value) (vb base : Nat) (w : World) (hown : w.ownsRow base 90 1 (.slice A n c) n xs)
    (hvb : w.cell? ⟨vb, 0, none⟩ = some x) (hx1 : x.oneCell' = true) (hbase : base ≤ w.heap.size) (hn : n ≤ 300) :
    Calls Try.prog 114 #[.slice A n c, .int .i64 n, .slice (some ⟨vb, 0, none⟩) 1 1] w (Put1 w base (.slice A n c) (n + 1) (xs ++ [x])) := by
  have hsl : n ≤ c ∧ c ≤ maxLen ∧ (A = none ∨ ∃ g, A = some ⟨g, 0, none⟩) := by
    rcases hown.2 with ⟨h0, h⟩ | ⟨g, cap, cur, h0, h1, h2, h3, h4, h5⟩
    · cases h0
      exact ⟨by omega, by decide, .inl rfl⟩
    · cases h0
      exact ⟨by omega, h4, .inr ⟨g, rfl⟩⟩
  obtain ⟨hnc, hcm, hA⟩ := hsl
  have HO := hid hown
  have HV := hid hvb
  clear hown hvb
  unfold maxLen at hcm
  obtain ⟨i0, hi, hz0, hz1, hz2⟩ := info_parts Try.infoNode
  have hnews : ∀ j u, [x][j]? = some u → w.cell? (Addr.add ⟨vb, 0, none⟩ j) = some u := by
    intro j u hj
    match j, hj with
    | 0, hj => simp at hj; subst hj; simpa [Addr.add] using HV.out
  have h1 : ∀ u ∈ [x], u.oneCell' = true := by intro u hu; simp at hu; rw [hu]; exact hx1
  have H1 := hid hi
  have H2 := hid hz0
  have H3 := hid hz1
  have H4 := hid hz2
  have H5 := hid hnews
  have H6 := hid h1
  clear hi hz0 hz1 hz2 hnews h1
  go_enter Try.func114, Try.ntmps114
  rcases hA with rfl | ⟨g0, rfl⟩
  · go_wp2_with (at_builtin; with_reducible refine wpList_append_lies _ rfl _ _ 109 rfl base 90 i0 (.pointer none) 1 8 Try.underlying109 H1.out H2.out H3.out H4.out rfl (by decide) (.slice none n c) n xs (by simp [Act.eval]) HO.out ⟨vb, 0, none⟩ 1 1 [x] (by simp [Act.eval]) rfl H5.out H6.out (by omega) (by unfold maxLen; omega) (by omega) hbase _ rfl ?_; intro g cap w1 hown hgrow hat hlt; have G1 := hid hown; have G2 := hid hgrow; have G3 := hid hat; clear hown hgrow hat)
    all_goals
      go_ret
      exact ⟨_, _, rfl, G1.out, G2.out, G3.out.imp id (fun h => by omega)⟩
  · go_wp2_with (at_builtin; with_reducible refine wpList_append_lies _ rfl _ _ 109 rfl base 90 i0 (.pointer none) 1 8 Try.underlying109 H1.out H2.out H3.out H4.out rfl (by decide) (.slice (some ⟨g0, 0, none⟩) n c) n xs (by simp [Act.eval]) HO.out ⟨vb, 0, none⟩ 1 1 [x] (by simp [Act.eval]) rfl H5.out H6.out (by omega) (by unfold maxLen; omega) (by omega) hbase _ rfl ?_; intro g cap w1 hown hgrow hat hlt; have G1 := hid hown; have G2 := hid hgrow; have G3 := hid hat; clear hown hgrow hat)
    all_goals
      go_ret
      exact ⟨_, _, rfl, G1.out, G2.out, G3.out.imp id (fun h => by omega)⟩

/-- One copy into the row at block g: only that block changes. -/
theorem copy_one {P : Program} (w : World) (dT sT ty elem : TypeId) (hu : P.underlying dT = some (.slice elem)) (hsz : (P.info? elem).map (·.size) = some 1)
    (g off dLen dCap : Nat) (ad : Addr) (sLen sCap : Nat) (cur : List Value) (t : TypeId) (hg : w.heap[g]? = some (.cells cur.toArray t (0, 0))) (cs : List Value) (hn : cs.length = Nat.min sLen dLen)
    (hsrc : ∀ j v, cs[j]? = some v → w.cell? (ad.add j) = some v) (hfit : off + cs.length ≤ cur.length) (h1 : ∀ v ∈ cs, v.oneCell' = true) :
    ∃ w', (Builtin.copy_ #[dT, sT] ty #[.slice (some ⟨g, off, none⟩) dLen dCap, .slice (some ad) sLen sCap]).run P w = .ok (goInt cs.length) w' ∧
      w'.heap[g]? = some (.cells (splice cur off cs).toArray t (0, 0)) ∧ w.grownBy w' (some g) := by
  refine ⟨_, run_copy_row P w dT sT ty elem g off dLen dCap ad sLen sCap cur.toArray t cs hu hsz hg hn hsrc (by simpa using hfit) h1, ?_, ?_⟩
  · rw [setRow_heap w g _ _ t _ hg]
    simp [splice]
  · exact ⟨rfl, rfl, rfl, by simp [World.setRow], fun k _ hk => setRow_other w g k _ (fun e => hk (by rw [e]))⟩
theorem wpList_copy_one {P : Program} {w : World} {ops : Array Oper} {rest : List Oper} {o : Oper} {a : Act} {Q : Exit → Act → World → Prop} (hgd : o.guard = none) (d s : Operand) (dT sT : TypeId)
    (ho : o.op = .call { callee := .builtin .copy, args := #[d, s], argTypes := #[dT, sT] }) (elem : TypeId) (hu : P.underlying dT = some (.slice elem)) (hsz : (P.info? elem).map (·.size) = some 1)
    (g off dLen dCap : Nat) (ad : Addr) (sLen sCap : Nat) (hd : a.eval d = .slice (some ⟨g, off, none⟩) dLen dCap) (hs : a.eval s = .slice (some ad) sLen sCap)
    (cur : List Value) (t : TypeId) (hg : w.heap[g]? = some (.cells cur.toArray t (0, 0))) (cs : List Value) (hn : cs.length = Nat.min sLen dLen)
    (hsrc : ∀ j v, cs[j]? = some v → w.cell? (ad.add j) = some v) (hfit : off + cs.length ≤ cur.length) (h1 : ∀ v ∈ cs, v.oneCell' = true)
    (h : ∀ w', Hid (w'.heap[g]? = some (.cells (splice cur off cs).toArray t (0, 0))) → Hid (w.grownBy w' (some g)) → wpList P ops Q rest (a.put o.dst (goInt cs.length)) w') : wpList P ops Q (o :: rest) a w := by
  refine wpList_plain hgd fun K hK => ?_
  obtain ⟨w', hrun, h2, h3⟩ := copy_one (P := P) w dT sT o.type elem hu hsz g off dLen dCap ad sLen sCap cur t hg cs hn hsrc hfit h1
  unfold Oper.wp
  simp [execOp, ho, resolve, invoke, builtin, hd, hs, hrun, Result.andThen]
  exact hK _ _ (h w' h2 h3)
theorem step_copy_one {P : Program} {w : World} {ops : Array Oper} {o : Oper} {a : Act} {K : Act → World → Prop} {Q : Exit → Act → World → Prop} {E : Prop} (hgd : o.guard = none) (d s : Operand) (dT sT : TypeId)
    (ho : o.op = .call { callee := .builtin .copy, args := #[d, s], argTypes := #[dT, sT] }) (elem : TypeId) (hu : P.underlying dT = some (.slice elem)) (hsz : (P.info? elem).map (·.size) = some 1)
    (g off dLen dCap : Nat) (ad : Addr) (sLen sCap : Nat) (hd : a.eval d = .slice (some ⟨g, off, none⟩) dLen dCap) (hs : a.eval s = .slice (some ad) sLen sCap)
    (cur : List Value) (t : TypeId) (hg : w.heap[g]? = some (.cells cur.toArray t (0, 0))) (cs : List Value) (hn : cs.length = Nat.min sLen dLen)
    (hsrc : ∀ j v, cs[j]? = some v → w.cell? (ad.add j) = some v) (hfit : off + cs.length ≤ cur.length) (h1 : ∀ v ∈ cs, v.oneCell' = true)
    (h : ∀ w', Hid (w'.heap[g]? = some (.cells (splice cur off cs).toArray t (0, 0))) → Hid (w.grownBy w' (some g)) → K (a.put o.dst (goInt cs.length)) w') :
    if Region.wanted o (yielded ops a.tmps) = true then Oper.wp P o a w K Q else E := by
  have hw : Region.wanted o (yielded ops a.tmps) = true := by simp [Region.wanted, hgd]
  rw [if_pos hw]
  obtain ⟨w', hrun, h2, h3⟩ := copy_one (P := P) w dT sT o.type elem hu hsz g off dLen dCap ad sLen sCap cur t hg cs hn hsrc hfit h1
  unfold Oper.wp
  simp [execOp, ho, resolve, invoke, builtin, hd, hs, hrun, Result.andThen]
  exact h w' h2 h3

theorem splice_take {α : Type} (cur xs : List α) (n i : Nat) (x : α) (hxs : cur.take n = xs) (hl : xs.length = n) (hi : i < n) (hc : n + 1 ≤ cur.length) :
    (splice (splice cur (i + 1) (xs.drop i)) i [x]).take (n + 1) = xs.take i ++ x :: xs.drop i := by
  apply List.ext_getElem?
  intro k
  have hL : (xs.drop i).length = n - i := by simp [hl]
  have hx : ∀ m, m < n → xs[m]? = cur[m]? := by
    intro m hm
    rw [← hxs, List.getElem?_take, if_pos hm]
  have hlt : (xs.take i).length = i := by simp; omega
  have hlc : (cur.take (i + 1)).length = i + 1 := by simp; omega
  by_cases hk : k < n + 1
  · rw [List.getElem?_take, if_pos hk]
    unfold splice
    have hl1 : (List.take i (List.take (i + 1) cur ++ (xs.drop i ++ List.drop (i + 1 + (xs.drop i).length) cur))).length = i := by
      simp; omega
    by_cases h1 : k < i
    · rw [List.getElem?_append_left (by omega), List.getElem?_append_left (by omega), List.getElem?_take, if_pos h1, List.getElem?_append_left (by omega), List.getElem?_take, if_pos (by omega), List.getElem?_take, if_pos h1, hx k (by omega)]
    · by_cases h2 : k = i
      · rw [List.getElem?_append_right (by omega), List.getElem?_append_right (l₁ := xs.take i) (by omega), hl1, hlt, h2, Nat.sub_self]
        rfl
      · obtain ⟨m, rfl⟩ : ∃ m, k = i + 1 + m := ⟨k - i - 1, by omega⟩
        rw [List.getElem?_append_right (by omega), List.getElem?_append_right (l₁ := xs.take i) (by omega), hl1, hlt, show i + 1 + m - i = m + 1 by omega]
        simp only [List.singleton_append, List.getElem?_cons_succ, List.length_singleton]
        rw [List.getElem?_drop, List.getElem?_append_right (by omega), hlc, show i + 1 + m - (i + 1) = m by omega, List.getElem?_append_left (by omega)]
  · rw [List.getElem?_eq_none, List.getElem?_eq_none]
    · simp; omega
    · simp; omega
theorem cell_at {w : World} {b k : Nat} {cs : List Value} {t : TypeId} {v : Value} (h : w.heap[b]? = some (.cells cs.toArray t (0, 0))) (hk : cs[k]? = some v) : w.cell? ⟨b, k, none⟩ = some v := by
  rw [cell_of_row _ _ _ _ _ _ h]
  simpa using hk

set_option maxHeartbeats 400000 in
set_option maxRecDepth 100000 in
theorem insert_room (g n c i : Nat) (cur xs : List Value) (x : Value) (vb base : Nat) (w : World) (hg : w.heap[g]? = some (.cells cur.toArray 90 (0, 0))) (hcl : cur.length = c) (hxs : cur.take n = xs) (hx : xs.length = n)
    (hc : n + 1 ≤ c) (hcm : c ≤ maxLen) (hi : i < n) (hb : base ≤ g) (hne : vb ≠ g) (hvb : w.heap[vb]? = some (.cells #[x] 90 (0, 0))) (hx1 : x.oneCell' = true) (h1 : ∀ u ∈ xs, u.oneCell' = true) :
    Calls Try.prog 114 #[.slice (some ⟨g, 0, none⟩) n c, .int .i64 i, .slice (some ⟨vb, 0, none⟩) 1 1] w
      (Put1 w base (.slice (some ⟨g, 0, none⟩) n c) (n + 1) (xs.take i ++ x :: xs.drop i)) := by
  have hov : ∀ lb cb, (callFunc 142 #[.slice (some ⟨vb, 0, none⟩) 1 1, .slice (some ⟨g, i + 1, none⟩) lb cb]).run Try.prog w = .ok (.value (.bool false)) w := fun lb cb => by
    rw [run_callFunc_extern Try.func142 (by kernel_rfl) (by kernel_rfl) (by kernel_rfl) (e := Extern.SlicesOverlaps.overlaps #[109, 109] #[4]) (by kernel_rfl),
      Lib.run_overlaps_apart w 109 4 90 Try.underlying109 1 (fun w => by rfl) ⟨vb, 0, none⟩ ⟨g, i + 1, none⟩ 1 1 lb cb hne 90 90 1 c
        (by simp [World.shape?, hvb]) (by simp [World.shape?, hg, hcl]) (by omega) (by simp [World.frozen?, hvb]) (by simp [World.frozen?, hvb])]
    rfl
  unfold maxLen at hcm
  have hdl : (xs.drop i).length = n - i := by rw [List.length_drop, hx]
  have HD : ∃ D, Hid (D = xs.drop i) := ⟨_, rfl⟩
  obtain ⟨D, HD⟩ := HD
  have hD : D.length = n - i := by rw [HD.out, hdl]
  have HS : Hid (∀ j v, D[j]? = some v → w.cell? (Addr.add ⟨g, i, none⟩ j) = some v) := by
    intro j v hj
    rw [HD.out, ← hxs, List.getElem?_drop, List.getElem?_take] at hj
    split at hj
    · rw [Addr.add_lit]
      exact cell_at hg hj
    · cases hj
  have H1 : Hid (∀ v ∈ D, v.oneCell' = true) := by
    intro v hv
    rw [HD.out] at hv
    exact h1 v (List.mem_of_mem_drop hv)
  have HG := hid hg
  have HV := hid hvb
  have HX := hid hxs
  have HN := hid hne
  have HL := hid hx
  have hsz : (Try.prog.info? 90).map (·.size) = some 1 := by kernel_rfl
  have HZ := hid hsz
  have hin : i ≤ n := by omega
  have hw1 : IntKind.i64.wrap ((i : Int) + 1) = (i : Int) + 1 := by rw [IntKind.wrap_i64]; omega
  have hb1 : (0 : Int) ≤ (i : Int) + 1 := by omega
  have htn : ((i : Int) + 1).toNat = i + 1 := by omega
  have hb2 : ¬ (c = i + 1) := by omega
  have hb3 : (i : Int) ≤ (n : Int) + 1 := by omega
  have hb5 : (i : Int) + 1 ≤ (n : Int) + 1 := by omega
  have hb4 : ¬ (c = i) := by omega
  clear hg hvb hxs hne hx h1 hdl hsz
  go_enter Try.func114, Try.ntmps114
  go_wp2_with (simp only [hov])
  go_region_law (refine step_copy_one rfl _ _ 109 109 rfl 90 Try.underlying109 HZ.out g (i + 1) (n - i) (c - (i + 1)) ⟨g, i, none⟩ (n + 1 - i) (c - i) (by simp [Act.eval, Act.put]) (by simp [Act.eval, Act.put]) cur 90 HG.out D (by simp only [Nat.min_def]; split <;> omega) HS.out (by omega) H1.out ?_; intro w1 G1 G2)
  have HX2 : Hid (∀ j v, [x][j]? = some v → w1.cell? (Addr.add ⟨vb, 0, none⟩ j) = some v) := by
    intro j v hj
    match j, hj with
    | 0, hj =>
      simp at hj
      subst hj
      have hne : some vb ≠ some g := fun e => HN.out (by injection e)
      rw [Addr.add_lit, Nat.zero_add]
      exact G2.out.cell (cell_at (cs := [x]) HV.out rfl) hne
  have HX1 : Hid (∀ v ∈ [x], v.oneCell' = true) := by
    intro v hv
    simp at hv
    rw [hv]
    exact hx1
  have hR1 : (splice cur (i + 1) D).length = c := by rw [length_splice _ _ _ (by omega), hcl]
  go_wp2_with (with_reducible refine wpList_copy_one rfl _ _ 109 109 rfl 90 Try.underlying109 HZ.out g i (n + 1 - i) (c - i) ⟨vb, 0, none⟩ 1 1 (by simp [Act.eval]) (by simp [Act.eval]) (splice cur (i + 1) D) 90 G1.out [x] (by simp only [Nat.min_def, List.length_singleton]; split <;> omega) HX2.out (by rw [hR1]; simp; omega) HX1.out ?_; intro w2 G3 G4)
  go_ret
  have hR2 : (splice (splice cur (i + 1) D) i [x]).length = c := by rw [length_splice _ _ _ (by rw [hR1]; simp; omega), hR1]
  refine ⟨g, c, rfl, ⟨by simp [HL.out]; omega, .inr ⟨g, c, _, rfl, hb, G3.out, by omega, by unfold maxLen; omega, by simp [hR2], ?_⟩⟩, ?_, .inl rfl⟩
  · rw [Nat.mul_one, HD.out]
    exact splice_take cur xs n i x HX.out HL.out hi (by omega)
  · have h2 := G2.out
    have h4 := G4.out
    exact ⟨h4.os.trans h2.os, h4.tape.trans h2.tape, h4.output.trans h2.output, Nat.le_trans h2.size h4.size, fun k hk hne => (h4.block k (Nat.lt_of_lt_of_le hk h2.size) hne).trans (h2.block k hk hne)⟩

theorem splice_take2 {α : Type} (row xs D : List α) (n i : Nat) (x : α) (hr : row.take i = xs.take i) (hl : xs.length = n) (hi : i < n) (hD : D = xs.drop i) :
    (splice (splice row i [x]) (i + 1) D).take (n + 1) = xs.take i ++ x :: D := by
  have hlt : (xs.take i).length = i := by simp; omega
  have e1 : splice row i [x] = (xs.take i ++ [x]) ++ row.drop (i + 1) := by
    unfold splice
    rw [hr]
    simp
  have hl2 : (xs.take i ++ [x]).length = i + 1 := by simp; omega
  have e2 : splice (splice row i [x]) (i + 1) D = (xs.take i ++ x :: D) ++ ((xs.take i ++ [x]) ++ row.drop (i + 1)).drop (i + 1 + D.length) := by
    rw [e1]
    unfold splice
    rw [List.take_left' hl2]
    simp
  rw [e2, List.take_left' (by subst hD; simp; omega)]

theorem zero_ptrs (k : Nat) : Builtin.zeroCells (Value.pointer none).cells k = (List.replicate k (Value.pointer none)).toArray := by
  apply Array.ext
  · simp [Builtin.zeroCells, Value.cells]
  · intro j h1 h2
    simp [Builtin.zeroCells, Value.cells, Nat.mod_one]
set_option maxHeartbeats 400000 in
set_option maxRecDepth 100000 in
theorem insert_grow (g n c i : Nat) (cur xs : List Value) (x : Value) (vb base : Nat) (w : World) (hg : w.heap[g]? = some (.cells cur.toArray 90 (0, 0))) (hxs : cur.take n = xs) (hx : xs.length = n)
    (hnc : n ≤ c) (hc : c < n + 1) (hn : n ≤ 300) (hi : i < n) (hb : base ≤ w.heap.size) (hvb : w.heap[vb]? = some (.cells #[x] 90 (0, 0))) (hx1 : x.oneCell' = true) (h1 : ∀ u ∈ xs, u.oneCell' = true) :
    Calls Try.prog 114 #[.slice (some ⟨g, 0, none⟩) n c, .int .i64 i, .slice (some ⟨vb, 0, none⟩) 1 1] w
      (Put1 w base (.slice (some ⟨g, 0, none⟩) n c) (n + 1) (xs.take i ++ x :: xs.drop i)) := by
  obtain rfl : c = n := by omega
  obtain ⟨i0, hi0, hz0, hz1, hz2⟩ := info_parts Try.infoNode
  have hold : (Builtin.firstCells i0.size i (.slice (some ⟨g, 0, none⟩) i c)).run Try.prog w.drew = .ok (xs.take i).toArray w.drew := by
    rw [hz1]
    exact run_firstCells_some w.drew 1 i ⟨g, 0, none⟩ i c (xs.take i) (by rw [List.length_take]; omega) (fun j v hj => by
      rw [Addr.add_lit, Nat.zero_add]
      rw [List.getElem?_take] at hj
      split at hj
      · rw [← hxs, List.getElem?_take] at hj
        split at hj
        · exact cell_at hg hj
        · cases hj
      · cases hj)
  have hik : i + (c + 1 - i) = c + 1 := by omega
  have hkk : (c : Int) + 1 - (i : Int) = ((c + 1 - i : Nat) : Int) := by omega
  obtain ⟨G, W1, hrz, hG1, hG2, ROW, hrow, hRl, hRt, hgr, hsize⟩ : ∃ G W1, (∀ ty, (Builtin.append_ #[109, 3] ty #[.slice (some ⟨g, 0, none⟩) i c, .int .i64 ((c : Int) + 1 - (i : Int))]).run Try.prog w =
      .ok (.slice (some ⟨w.heap.size, 0, none⟩) (c + 1) G) W1) ∧ c + 1 ≤ G ∧ G ≤ maxLen ∧ ∃ ROW : List Value, W1.heap[w.heap.size]? = some (.cells ROW.toArray 90 (0, 0)) ∧ ROW.length = G ∧ ROW.take i = xs.take i ∧ w.grownBy W1 none ∧ w.heap.size < W1.heap.size := by
    have h := fun ty => Lib.run_append_grow_zeros w 109 3 ty 90 i0 _ .i64 .i64 Try.underlying109 Try.underlying3 hi0 hz0 (some ⟨g, 0, none⟩) i c (xs.take i) hold (c + 1 - i) (by omega) (by omega) (by omega) (by omega) (by rw [hz2]; omega) (by rw [hz2, hik]; exact growslice_fits (by omega) (by omega))
    rw [hik] at h
    rw [hkk]
    have hG := grownCap_ge w (c + 1) c 90
    refine ⟨_, _, h, hG, grownCap_le_maxLen w (c + 1) c 90 (by unfold maxLen; omega), (xs.take i) ++ (List.replicate (c + 1 - i) (.pointer none) ++ List.replicate (grownCap w (c + 1) c 90 - (c + 1)) (.pointer none)), ?_, ?_, ?_, ?_, ?_⟩
    · rw [show w.heap.size = w.drew.heap.size by rfl, heap_alloc_new]
      simp only [zero_ptrs]
      simp
    · simp; omega
    · exact List.take_left' (by simp; omega)
    · exact ⟨rfl, rfl, rfl, by simp, fun k hk _ => Below.heap_alloc w.drew _ k hk⟩
    · simp
  obtain ⟨N, hN⟩ : ∃ N, w.heap.size = N := ⟨_, rfl⟩
  rw [hN] at hrz hrow hsize
  unfold maxLen at hG2
  have hdl : (xs.drop i).length = c - i := by rw [List.length_drop, hx]
  have HD : ∃ D, Hid (D = xs.drop i) := ⟨_, rfl⟩
  obtain ⟨D, HD⟩ := HD
  have hD : D.length = c - i := by rw [HD.out, hdl]
  have hgN : g < N := by rw [← hN]; exact (Array.getElem?_eq_some_iff.1 hg).1
  have hvN : vb < N := by rw [← hN]; exact (Array.getElem?_eq_some_iff.1 hvb).1
  have HX2 : Hid (∀ j v, [x][j]? = some v → W1.cell? (Addr.add ⟨vb, 0, none⟩ j) = some v) := by
    intro j v hj
    match j, hj with
    | 0, hj =>
      simp at hj
      subst hj
      rw [Addr.add_lit, Nat.zero_add]
      exact hgr.cell (cell_at (cs := [x]) hvb rfl) (by simp)
  have HX1 : Hid (∀ v ∈ [x], v.oneCell' = true) := by
    intro v hv
    simp at hv
    rw [hv]
    exact hx1
  have HS : Hid (∀ W, W1.grownBy W (some N) → ∀ j v, D[j]? = some v → W.cell? (Addr.add ⟨g, i, none⟩ j) = some v) := by
    intro W hW j v hj
    rw [HD.out, ← hxs, List.getElem?_drop, List.getElem?_take] at hj
    split at hj
    · rw [Addr.add_lit]
      refine hW.cell (hgr.cell (cell_at hg hj) (by simp)) ?_
      intro e
      injection e with e
      simp at e
      omega
    · cases hj
  have H1 : Hid (∀ v ∈ D, v.oneCell' = true) := by
    intro v hv
    rw [HD.out] at hv
    exact h1 v (List.mem_of_mem_drop hv)
  have HRZ := hid hrz
  have HRW := hid hrow
  have HRT := hid hRt
  have HGR := hid hgr
  have HL := hid hx
  have HB := hid hb
  have HNN := hid hN
  have hsz : (Try.prog.info? 90).map (·.size) = some 1 := by kernel_rfl
  have HZ := hid hsz
  have hR1 : (splice ROW i [x]).length = G := by rw [length_splice _ _ _ (by simp; omega), hRl]
  have hin : i ≤ c := by omega
  have hw1 : IntKind.i64.wrap ((i : Int) + 1) = (i : Int) + 1 := by rw [IntKind.wrap_i64]; omega
  have hb1 : (0 : Int) ≤ (i : Int) + 1 := by omega
  have htn : ((i : Int) + 1).toNat = i + 1 := by omega
  have hb2 : ¬ (G = i + 1) := by omega
  have hb3 : (i : Int) ≤ (c : Int) + 1 := by omega
  have hb5 : (i : Int) + 1 ≤ (c : Int) + 1 := by omega
  have hb4 : ¬ (c = i) := by omega
  have hb6 : ¬ (G = i) := by omega
  have hlt : (c : Int) < (c : Int) + 1 := by omega
  clear hrz hrow hRt hgr hx hN hsz hold hxs hg hvb h1 hdl hz0 hz1 hz2 hi0 hik hkk hb
  go_enter Try.func114, Try.ntmps114
  go_wp2_with first
    | (at_builtin; with_reducible refine Lib.wpList_append_run _ rfl _ _ 109 3 rfl (.slice (some ⟨g, 0, none⟩) i c) (.int .i64 ((c : Int) + 1 - (i : Int))) (by simp [Act.eval]) (by simp [Act.eval]) _ _ (HRZ.out _) ?_)
    | (with_reducible refine wpList_copy_one rfl _ _ 109 109 rfl 90 Try.underlying109 HZ.out N i (c + 1 - i) (G - i) ⟨vb, 0, none⟩ 1 1 (by simp [Act.eval]) (by simp [Act.eval]) ROW 90 HRW.out [x] (by simp only [Nat.min_def, List.length_singleton]; split <;> omega) HX2.out (by simp; omega) HX1.out ?_; intro w2 G3 G4)
  go_region_law (refine step_copy_one rfl _ _ 109 109 rfl 90 Try.underlying109 HZ.out N (i + 1) (c - i) (G - (i + 1)) ⟨g, i, none⟩ (c - i) (c - i) (by simp [Act.eval, Act.put]) (by simp [Act.eval, Act.put]) (splice ROW i [x]) 90 G3.out D (by simp only [Nat.min_def]; split <;> omega) (HS.out w2 G4.out) (by omega) H1.out ?_; intro w3 G5 G6)
  go_wp2
  go_ret
  have hR2 : (splice (splice ROW i [x]) (i + 1) D).length = G := by rw [length_splice _ _ _ (by omega), hR1]
  refine ⟨N, G, rfl, ⟨by simp [HL.out]; omega, .inr ⟨N, G, _, rfl, by rw [← HNN.out]; exact HB.out, G5.out, by omega, by unfold maxLen; omega, by simp [hR2], ?_⟩⟩, ?_, .inr (by rw [HNN.out]; exact Nat.le_refl _)⟩
  · rw [Nat.mul_one]
    refine (splice_take2 ROW xs D c i x HRT.out HL.out hi HD.out).trans (by rw [HD.out])
  · have h2 := HGR.out
    have h4 := G4.out
    have h6 := G6.out
    refine ⟨h6.os.trans (h4.os.trans h2.os), h6.tape.trans (h4.tape.trans h2.tape), h6.output.trans (h4.output.trans h2.output), Nat.le_trans h2.size (Nat.le_trans h4.size h6.size), fun k hk hne => ?_⟩
    have hkN : some k ≠ some N := by
      intro e
      injection e with e
      have := HNN.out
      omega
    exact (h6.block k (Nat.lt_of_lt_of_le hk (Nat.le_trans h2.size h4.size)) hkN).trans ((h4.block k (Nat.lt_of_lt_of_le hk h2.size) hkN).trans (h2.block k hk (by simp)))

/-- slices.Insert of one node. -/
theorem insert_one (v : Value) (n i : Nat) (xs : List Value) (x : Value) (vb base : Nat) (w : World) (hown : w.ownsRow base 90 1 v n xs) (hi : i ≤ n) (hn : n ≤ 300) (hbase : base ≤ w.heap.size)
    (hvb : w.heap[vb]? = some (.cells #[x] 90 (0, 0))) (hne : v.ownBlock ≠ some vb) (hx1 : x.oneCell' = true) (h1 : ∀ u ∈ xs, u.oneCell' = true) :
    Calls Try.prog 114 #[v, .int .i64 i, .slice (some ⟨vb, 0, none⟩) 1 1] w (Put1 w base v (n + 1) (xs.take i ++ x :: xs.drop i)) := by
  have hl : xs.length = n := by simpa using hown.1
  by_cases he : i = n
  · subst he
    rw [show xs.take i ++ x :: xs.drop i = xs ++ [x] by rw [← hl]; simp]
    have hA : ∃ A c, v = .slice A i c := by
      rcases hown.2 with ⟨h0, h⟩ | ⟨g, cap, cur, h0, _⟩
      · exact ⟨_, _, by rw [h0, h]⟩
      · exact ⟨_, _, h0⟩
    obtain ⟨A, c, rfl⟩ := hA
    exact insert_end A i c xs x vb base w hown (cell_at (cs := [x]) hvb rfl) hx1 hbase hn
  · rcases hown.2 with ⟨h0, h⟩ | ⟨g, cap, cur, rfl, hb, hg, h2, h3, h4, h5⟩
    · omega
    · have hg' : w.heap[g]? = some (.cells cur.toList.toArray 90 (0, 0)) := by simpa using hg
      by_cases hr : n + 1 ≤ cap
      · exact insert_room g n cap i cur.toList xs x vb base w hg' (by simpa using h4) (by simpa using h5) hl hr h3 (by omega) hb (fun e => hne (by rw [e]; rfl)) hvb hx1 h1
      · exact insert_grow g n cap i cur.toList xs x vb base w hg' (by simpa using h5) hl h2 (by omega) hn (by omega) hbase hvb hx1 h1
end Go.Proofs.Ytcnfdmpggnhlgaa
