/-
Several texts of this proof, one behind the other.
-/
import Derived.Test.YtgkagigagcamoaaOpRow
import Derived.Lib.AppendZerosOnto
import Derived.Lib.Walk
import Derived.Handy
import Derived.Lib.SliceRun
import Derived.Deep.AppendLies

/-
slices.Grow and slices.Concat at rows of ops; appending a row of ops to one of the call's own.
-/
namespace Go.Proofs.Ytgkagigagcamoaa
open Go.RowKit

abbrev zOp : Value := .agg #[.int .i64 0, .int .i64 0, .int .u8 0]
/-- A slice of the call's own, of no edits yet. -/
def GrowOPost (w : World) (e : Ending) (w' : World) : Prop :=
  ∃ v, e = .returned v ∧ OwnO w' w.heap.size v [] ∧ Below w.heap.size w w'
set_option maxRecDepth 100000 in
theorem growO_some (n : Nat) (w : World) (h0 : 1 ≤ n) (hn : n ≤ 100000) : Calls Try.prog 58 #[.slice none 0 0, .int .i64 (n : Int)] w (GrowOPost w) := by
  obtain ⟨i0, hi, hz0, hz1, hz2⟩ := info_parts Try.infoOp
  have hrz : ∀ ty, (Builtin.append_ #[33, 3] ty #[.slice none 0 0, .int .i64 (n : Int)]).run Try.prog w =
      .ok (.slice (some ⟨w.heap.size, 0, none⟩) n (grownCap w n 0 23)) (w.drew.alloc (.cells ([].toArray ++ Builtin.zeroCells zOp.cells n ++ Builtin.zeroCells zOp.cells (grownCap w n 0 23 - n)) 23)) := fun ty => by
    have h := Lib.run_append_grow_zeros w 33 3 ty 23 i0 zOp .i64 .i64 Try.underlying33 Try.underlying3 hi hz0 none 0 0 [] (run_firstCells_none w.drew i0.size 0 0 0) n (by omega) (by rw [hz1]; decide) (by omega) (by omega) (by rw [hz2]; omega)
      (by rw [Nat.zero_add]; exact growslice_fits (by omega) (by rw [hz2]; omega))
    rw [Nat.zero_add] at h
    exact h
  have hG1 : n ≤ grownCap w n 0 23 := grownCap_ge w _ _ _
  have hG2 := grownCap_le_maxLen w n 0 23 (by unfold maxLen; omega)
  have hsz : ([].toArray ++ Builtin.zeroCells zOp.cells n ++ Builtin.zeroCells zOp.cells (grownCap w n 0 23 - n)).size = grownCap w n 0 23 * 3 := by
    have e1 : zOp.cells.size = 3 := rfl
    simp [Builtin.zeroCells, e1]
    omega
  have hP : Hid (GrowOPost w (.returned (.slice (some ⟨w.heap.size, 0, none⟩) 0 (grownCap w n 0 23))) (w.drew.alloc (.cells ([].toArray ++ Builtin.zeroCells zOp.cells n ++ Builtin.zeroCells zOp.cells (grownCap w n 0 23 - n)) 23))) :=
    ⟨_, rfl, World.ownsRow_made (base := w.heap.size) (e := 23) (size := 3) w.drew _ _ (Nat.le_refl _) hG2 hsz, (bl_drewN (Below.refl _ w) 1).alloc (Nat.le_refl _) _⟩
  have h1 : decide ((n : Int) < 0) = false := decide_eq_false (by omega)
  have h4 : (0 : Int) < (n : Int) := by omega
  clear hsz hG1 hG2
  generalize grownCap w n 0 23 = G at *
  generalize w.drew.alloc (.cells ([].toArray ++ Builtin.zeroCells zOp.cells n ++ Builtin.zeroCells zOp.cells (G - n)) 23) = W at *
  go_enter Try.func58, Try.ntmps58
  go_wp2_with (at_builtin; refine Lib.wpList_append_run _ rfl _ _ _ _ rfl _ _ rfl rfl _ _ (hrz _) ?_)
  all_goals (go_ret; exact hP.out)
theorem growO_none (w : World) : Calls Try.prog 58 #[.slice none 0 0, .int .i64 0] w (GrowOPost w) := by
  go_enter Try.func58, Try.ntmps58
  go_wp2
  go_ret
  exact ⟨_, rfl, OwnO.zero _ _, Below.refl _ _⟩
theorem growO_all (n : Nat) (w : World) (hn : n ≤ 100000) : Calls Try.prog 58 #[.slice none 0 0, .int .i64 (n : Int)] w (GrowOPost w) := by
  by_cases h0 : n = 0
  · subst h0; exact growO_none w
  · exact growO_some n w (by omega) hn

/-- 'append(s, row...)' where the row is empty. -/
theorem run_appendO_nothing {P : Program} (w : World) (t ty e : TypeId) (i : TypeInfo) (ht : P.underlying t = some (.slice e)) (hi : P.info? e = some i) (base : Option Addr) (n cap : Nat) (hn : n ≤ cap) (x : Option Addr) (c : Nat) :
    (Builtin.append_ #[t, t] ty #[.slice base n cap, .slice x 0 c]).run P w = .ok (.slice base n cap) w := by
  have hfc : (Builtin.firstCells i.size 0 (.slice x 0 c)).run P w = .ok #[] w := by
    cases x with
    | none => exact run_firstCells_none ..
    | some a => exact run_firstCells_some w i.size 0 a 0 c [] (by simp) (by simp)
  cases base <;> simp [Builtin.append_, run_underlying ht, sizeOf, typeInfo, hi, Builtin.lenOf, hn, hfc, storeCells]
theorem OpRow.spot {w : World} {A : Option Addr} {n : Nat} {g : Nat → Sh.Op} (h : OpRow w A n g) (hn : 0 < n) : ∃ b o, A = some ⟨b, o, none⟩ ∧ b < w.heap.size ∧ ∀ k, k < n → w.cell? ⟨b, o + k * 3, none⟩ = some (.int .i64 (g k).k) ∧ w.cell? ⟨b, o + k * 3 + 1, none⟩ = some (.int .i64 (g k).a) ∧ w.cell? ⟨b, o + k * 3 + 2, none⟩ = some (.int .u8 ((g k).b.toNat : Int)) := by
  obtain ⟨b, o, rfl, hb, _⟩ := h 0 hn
  refine ⟨b, o, rfl, hb, fun k hk => ?_⟩
  obtain ⟨b', o', e, _, hc⟩ := h k hk
  injection e with e
  injection e with e1 e2
  subst e1; subst e2
  exact hc
/-- 'out = append(out, row...)', out a row of the call's own, row whatever row of edits. -/
theorem app_rowO {ops : Array Oper} {rest : List Oper} {o : Oper} {a : Act} {Q : Exit → Act → World → Prop} {wr : World} {L : List Sh.Op} {g : Nat → Sh.Op} {v : Value} {base m c : Nat} {B : Option Addr} (hgd : o.guard = none) (s x : Operand)
    (ho : o.op = .call { callee := .builtin .append, args := #[s, x], argTypes := #[33, 33] })
    (hs : a.eval s = v) (hown : OwnO wr base v L) (hx : a.eval x = .slice B m c) (hr : OpRow wr B m g)
    (hbase : base ≤ wr.heap.size) (hlen : L.length + m ≤ 100000)
    (h : ∀ v' w', OwnO w' base v' (L ++ ol g m) → Below base wr w' → wpList Try.prog ops Q rest (a.put o.dst v') w') :
    wpList Try.prog ops Q (o :: rest) a wr := by
  obtain ⟨i0, hi, hz0, hz1, hz2⟩ := info_parts Try.infoOp
  by_cases h0 : m = 0
  · subst h0
    obtain ⟨A, cp, e, hcp, _⟩ := hown.row
    subst e
    refine Lib.wpList_append_run wr hgd s x 33 33 ho _ _ hs hx _ _ (run_appendO_nothing wr 33 _ 23 i0 Try.underlying33 hi A _ cp hcp B c) ?_
    refine h _ wr ?_ (Below.refl _ _)
    have : ol g 0 = [] := rfl
    rw [this, List.append_nil]
    exact hown
  · obtain ⟨b, f, rfl, hb, hc⟩ := hr.spot (by omega)
    refine wpList_append_own _ hgd s x 33 ho base 23 i0 zOp 3 24 Try.underlying33 hi hz0 hz1 hz2 rfl (by decide) v _ _ hs hown ⟨b, f, none⟩ m c ((ol g m).flatMap opC) hx (by rw [op_len, ol_len]) ?_ ?_ ?_ ?_ hbase ?_
    · intro j u hj
      obtain ⟨hjm, _⟩ := List.getElem?_eq_some_iff.1 hj
      rw [op_len, ol_len] at hjm
      rw [Addr.add_lit]
      obtain ⟨k, r, hr3, rfl⟩ : ∃ k r, r < 3 ∧ j = k * 3 + r := ⟨j / 3, j % 3, Nat.mod_lt _ (by decide), by omega⟩
      have hk : k < m := by omega
      have hf := op_flat (ol g m) k (by rw [ol_len]; exact hk)
      have e : (ol g m)[k]'(by rw [ol_len]; exact hk) = g k := by simp [ol]
      rw [e] at hf
      obtain ⟨q1, q2, q3⟩ := hc k hk
      match r, hr3 with
      | 0, _ =>
        rw [Nat.add_zero, hf.1] at hj
        rw [← hj]; exact q1
      | 1, _ =>
        rw [hf.2.1] at hj
        rw [← hj, show f + (k * 3 + 1) = f + k * 3 + 1 by omega]; exact q2
      | 2, _ =>
        rw [hf.2.2] at hj
        rw [← hj, show f + (k * 3 + 2) = f + k * 3 + 2 by omega]; exact q3
    · intro u hu
      obtain ⟨y, _, hy⟩ := List.mem_flatMap.1 hu
      simp [opC] at hy
      rcases hy with rfl | rfl | rfl <;> rfl
    · unfold maxLen; omega
    · omega
    · intro v' w' h1 h2 _
      refine h v' w' ?_ ((Below.refl _ _).grown h2 hbase fun k hk => (World.ownsRow.lt hown k hk).1)
      unfold OwnO
      rw [List.flatMap_append, List.length_append, ol_len]
      exact h1
/-- The first i rows one after the other. -/
def catO (n : Nat → Nat) (g : Nat → Nat → Sh.Op) : Nat → List Sh.Op
  | 0 => []
  | i + 1 => catO n g i ++ ol (g i) (n i)
theorem catO_le (n : Nat → Nat) (g : Nat → Nat → Sh.Op) : ∀ {i m : Nat}, i ≤ m → (catO n g i).length ≤ (catO n g m).length
  | _, 0, h => by rw [Nat.le_zero.1 h]; exact Nat.le_refl _
  | i, m + 1, h => by
    by_cases e : i = m + 1
    · rw [e]; exact Nat.le_refl _
    · have := catO_le n g (i := i) (m := m) (by omega)
      show _ ≤ (catO n g m ++ ol (g m) (n m)).length
      rw [List.length_append]; omega
theorem catO_succ (n : Nat → Nat) (g : Nat → Nat → Sh.Op) (i : Nat) : (catO n g (i + 1)).length = (catO n g i).length + n i := by
  show (catO n g i ++ ol (g i) (n i)).length = _
  rw [List.length_append, ol_len]
/-- The parts of a [][]api.Op. -/
def PartsO (w : World) (b o m : Nat) (n : Nat → Nat) (g : Nat → Nat → Sh.Op) : Prop :=
  ∀ k, k < m → ∃ A c, w.cell? ⟨b, o + k, none⟩ = some (.slice A (n k) c) ∧ OpRow w A (n k) (g k)
def CatOPost (L : List Sh.Op) (w : World) (e : Ending) (w' : World) : Prop := ∃ v, e = .returned v ∧ OwnO w' w.heap.size v L ∧ Below w.heap.size w w'
set_option maxHeartbeats 1000000 in
theorem concatO_any (b o m c : Nat) (n : Nat → Nat) (g : Nat → Nat → Sh.Op) (w : World) (hb : b < w.heap.size) (h : PartsO w b o m n g) (h2 : (catO n g m).length ≤ 100000) (hm : m ≤ 1000) :
    Calls Try.prog 38 #[.slice (some ⟨b, o, none⟩) m c] w (CatOPost (catO n g m) w) := by
  have H := hid h
  have hG := growO_all (catO n g m).length w h2
  clear h
  go_enter Try.func38, Try.ntmps38
  go_wp2
  go_loopw [3, 11] (fun x y wr => ∃ i s : Nat, i ≤ m ∧ s ≤ 100000 ∧ x = .int .i64 (s : Int) ∧ y = .int .i64 (i : Int) ∧ Hid (s = (catO n g i).length) ∧ w = wr) (fun _ y _ => m - (intOf y).toNat)
  case atStart => exact ⟨0, 0, by omega, by omega, rfl, rfl, rfl, rfl⟩
  case round =>
    obtain ⟨i, s, hi, hs, rfl, rfl, HS, rfl⟩ := hrel
    by_cases hlt : i < m
    · have hlt' : (i : Int) < (m : Int) := by omega
      obtain ⟨A, ck, hc, _⟩ := H.out i hlt
      have HS2 : Hid (s + n i = (catO n g (i + 1)).length) := by
        show _ = _
        rw [catO_succ, HS.out]
      have hs2 : s + n i ≤ 100000 := by
        have := catO_le n g (i := i + 1) (m := m) (by omega)
        rw [HS2.out]; omega
      clear HS hG
      generalize n i = q at hc HS2 hs2
      obtain ⟨t, ht⟩ : ∃ t : Nat, t = s + q := ⟨_, rfl⟩
      have ht2 : (s : Int) + (q : Int) = (t : Int) := by omega
      have ht3 : decide ((t : Int) < 0) = false := decide_eq_false (by omega)
      rw [← ht] at HS2 hs2
      clear ht
      go_wp2
      go_roundw
      case measure => simp [intOf]; omega
      case rel => exact ⟨i + 1, t, by omega, by omega, by go_num, by go_num, HS2, by trivial⟩
    · have hdl : decide ((i : Int) < (m : Int)) = false := decide_eq_false (by omega)
      obtain rfl : m = i := by omega
      rw [← HS.out] at hG
      go_wp2_with fail
      with_reducible refine hG.mono ?_
      rintro e w1 ⟨v1, rfl, ho1, hb1⟩
      have HO := hid ho1
      have HB := hid hb1
      clear hG ho1 hb1 HS
      go_wp2
      go_loopw [6, 27] (fun x y wr => ∃ (v : Value) (i : Nat), v = x ∧ i ≤ m ∧ y = .int .i64 (i : Int) ∧ Hid (OwnO wr w.heap.size v (catO n g i)) ∧ Hid (Below w.heap.size w wr)) (fun _ y _ => m - (intOf y).toNat)
      case atStart => exact ⟨v1, 0, rfl, by omega, rfl, HO, HB⟩
      case round =>
        clear HO HB
        obtain ⟨v, i, rfl, hi, rfl, HO, HB⟩ := hrel
        by_cases hlt : i < m
        · have hlt' : (i : Int) < (m : Int) := by omega
          obtain ⟨A, ck, hc, hrow⟩ := H.out i hlt
          have hc1 := (HB.out.cell (p := ⟨b, o + i, none⟩) hb).trans hc
          have HX := hid (hrow.keep HB.out)
          have hl : (catO n g i).length + n i ≤ 100000 := by
            have := catO_le n g (i := i + 1) (m := m) (by omega)
            rw [catO_succ] at this
            omega
          have HL := hid hl
          clear hc hl hrow
          go_wp2_with (at_builtin; with_reducible refine app_rowO rfl _ _ rfl rfl HO.out rfl HX.out HB.out.size HL.out ?_)
          intro v2 w2 ho2 hb2
          have HO2 : Hid (OwnO w2 w.heap.size v2 (catO n g (i + 1))) := ho2
          have HB2 := hid (HB.out.trans hb2)
          clear ho2 hb2 HO HB hc1 HX HL
          go_wp2
          go_roundw
          case measure => simp [intOf]; omega
          case rel => exact ⟨v2, i + 1, rfl, by omega, by go_num, HO2, HB2⟩
        · have hdl : decide ((i : Int) < (m : Int)) = false := decide_eq_false (by omega)
          obtain rfl : m = i := by omega
          go_wp2
          go_ret
          exact ⟨_, rfl, HO.out, HB.out⟩
/-- Two rows in a row. -/
def twoNO (n1 n2 : Nat) (k : Nat) : Nat := if k = 0 then n1 else n2
def twoGO (g1 g2 : Nat → Sh.Op) (k : Nat) : Nat → Sh.Op := if k = 0 then g1 else g2
theorem catO_two (n1 n2 : Nat) (g1 g2 : Nat → Sh.Op) : catO (twoNO n1 n2) (twoGO g1 g2) 2 = ol g1 n1 ++ ol g2 n2 := rfl
theorem partsO_two {w : World} {N : Nat} {A1 A2 : Option Addr} {n1 n2 c1 c2 : Nat} {g1 g2 : Nat → Sh.Op} {t : TypeId} (hN : w.heap.size = N) (h1 : OpRow w A1 n1 g1) (h2 : OpRow w A2 n2 g2) : PartsO (w.alloc (.cells #[.slice A1 n1 c1, .slice A2 n2 c2] t)) N 0 2 (twoNO n1 n2) (twoGO g1 g2) := by
  subst hN
  have hb := bl_new w (.cells #[.slice A1 n1 c1, .slice A2 n2 c2] t)
  intro k hk
  match k, hk with
  | 0, _ => exact ⟨A1, c1, by rw [cell_of_row _ _ _ _ _ _ (heap_alloc_new w _)]; rfl, h1.keep hb⟩
  | 1, _ => exact ⟨A2, c2, by rw [cell_of_row _ _ _ _ _ _ (heap_alloc_new w _)]; rfl, h2.keep hb⟩
end Go.Proofs.Ytgkagigagcamoaa


/-
The contract of slices.Clone at rows of ops.
-/
namespace Go.Proofs.Ytgkagigagcamoaa
open Go.RowKit

theorem clone_o_nil (n c : Nat) (w : World) :
    Calls Try.prog 26 #[.slice none n c] w fun e w' => e = .returned (.slice none 0 0) ∧ w = w' := by
  have hq := fun W : World => Lib.run_eql_slice_nil (P := Try.prog) W 33 23 none n c 0 0 Try.underlying33
  go_enter Try.func26, Try.ntmps26
  go_wp2
  go_ret
  exact ⟨rfl, rfl⟩
theorem OpRow.news {w : World} {b o n : Nat} {h : Nat → Sh.Op} (hr : OpRow w (some ⟨b, o, none⟩) n h) : ∀ j u, ((ol h n).flatMap opC)[j]? = some u → w.cell? (Addr.add ⟨b, o, none⟩ j) = some u := by
  intro j u hj
  obtain ⟨hjm, _⟩ := List.getElem?_eq_some_iff.1 hj
  rw [op_len, ol_len] at hjm
  rw [Addr.add_lit]
  obtain ⟨k, r, hr3, rfl⟩ : ∃ k r, r < 3 ∧ j = k * 3 + r := ⟨j / 3, j % 3, Nat.mod_lt _ (by decide), by omega⟩
  have hk : k < n := by omega
  have hf := op_flat (ol h n) k (by rw [ol_len]; exact hk)
  have e : (ol h n)[k]'(by rw [ol_len]; exact hk) = h k := by simp [ol]
  rw [e] at hf
  obtain ⟨b', o', e', _, q1, q2, q3⟩ := hr k hk
  injection e' with e'
  injection e' with e1 e2
  subst e1; subst e2
  match r, hr3 with
  | 0, _ =>
    rw [Nat.add_zero, hf.1] at hj
    rw [← hj]; exact q1
  | 1, _ =>
    rw [hf.2.1] at hj
    rw [← hj, show o + (k * 3 + 1) = o + k * 3 + 1 by omega]; exact q2
  | 2, _ =>
    rw [hf.2.2] at hj
    rw [← hj, show o + (k * 3 + 2) = o + k * 3 + 2 by omega]; exact q3
theorem op_one (L : List Sh.Op) : ∀ u ∈ L.flatMap opC, u.oneCell' = true := by
  intro u hu
  obtain ⟨x, _, hx⟩ := List.mem_flatMap.1 hu
  simp [opC] at hx
  rcases hx with rfl | rfl | rfl <;> rfl
theorem clone_o_some (b o n c : Nat) (h : Nat → Sh.Op) (w : World) (hr : OpRow w (some ⟨b, o, none⟩) n h) (hl : n ≤ 100000) (h0 : 0 < n) :
    Calls Try.prog 26 #[.slice (some ⟨b, o, none⟩) n c] w fun e w' => ∃ v, e = .returned v ∧ OwnO w' w.heap.size v (ol h n) ∧ Below w.heap.size w w' := by
  have hq := fun W : World => Lib.run_eql_slice_nil (P := Try.prog) W 33 23 (some ⟨b, o, none⟩) n c 0 0 Try.underlying33
  have HR := hid hr
  clear hr
  go_enter Try.func26, Try.ntmps26
  obtain ⟨i0, hi, hz0, hz1, hz2⟩ := info_parts Try.infoOp
  have H1 := hid hi
  have H2 := hid hz0
  have H3 := hid hz1
  have H4 := hid hz2
  have H5 := hid (OpRow.news (HR.out.keep (bl_new w (.cells #[] 23))))
  have H6 := hid (op_one (ol h n))
  have H7 : Hid ((w.alloc (.cells #[] 23)).ownsRow w.heap.size 23 3 (.slice (some ⟨w.heap.size, 0, none⟩) 0 0) 0 []) := World.ownsRow_made w #[] 0 (Nat.le_refl _) (by decide) rfl
  have H8 : Hid (((ol h n).flatMap opC).length = n * 3) := by show _ = _; rw [op_len, ol_len]
  have H9 : Hid (w.heap.size ≤ (w.alloc (.cells #[] 23)).heap.size) := by show _ ≤ _; simp
  clear hi hz0 hz1 hz2
  go_wp2_with (at_builtin; with_reducible refine wpList_append_lies _ rfl _ _ 33 rfl w.heap.size 23 i0 (.agg #[.int .i64 0, .int .i64 0, .int .u8 0]) 3 24 Try.underlying33 H1.out H2.out H3.out H4.out rfl (by decide) (.slice (some ⟨w.heap.size, 0, none⟩) 0 0) 0 [] (by simp [Act.eval]) H7.out ⟨b, o, none⟩ n c ((ol h n).flatMap opC) (by simp [Act.eval]) H8.out H5.out H6.out h0 (by unfold maxLen; omega) (by omega) H9.out _ rfl ?_; intro g cap w1 hown hgrow hat hlt; have G1 := hid hown; have G2 := hid hgrow; have G3 := hid hat; clear hown hgrow hat)
  go_ret
  refine ⟨_, rfl, ?_, ?_⟩
  · have := G1.out
    rw [Nat.zero_add, List.nil_append] at this
    unfold OwnO
    rw [ol_len]
    exact this
  · refine (bl_new w (.cells #[] 23)).grown G2.out H9.out ?_
    intro k hk
    simp [Value.ownBlock] at hk
    omega
/-- Of a slice that is not nil and has nothing in it. -/
theorem clone_o_zero (a : Addr) (c : Nat) (w : World) :
    Calls Try.prog 26 #[.slice (some a) 0 c] w fun e w' => ∃ v, e = .returned v ∧ OwnO w' w.heap.size v [] ∧ Below w.heap.size w w' := by
  have hq := fun W : World => Lib.run_eql_slice_nil (P := Try.prog) W 33 23 (some a) 0 c 0 0 Try.underlying33
  obtain ⟨i0, hi, hz0, hz1, hz2⟩ := info_parts Try.infoOp
  have H7 : Hid ((w.alloc (.cells #[] 23)).ownsRow w.heap.size 23 3 (.slice (some ⟨w.heap.size, 0, none⟩) 0 0) 0 []) := World.ownsRow_made w #[] 0 (Nat.le_refl _) (by decide) rfl
  have HA := hid (run_appendO_nothing (P := Try.prog) (w.alloc (.cells #[] 23)) 33 33 23 i0 Try.underlying33 hi (some ⟨w.heap.size, 0, none⟩) 0 0 (Nat.le_refl _) (some a) c)
  clear hi hz0 hz1 hz2
  go_enter Try.func26, Try.ntmps26
  go_wp2_with (at_builtin; with_reducible refine Lib.wpList_append_run _ rfl _ _ 33 33 rfl _ _ rfl rfl _ _ HA.out ?_)
  go_ret
  exact ⟨_, rfl, H7.out, bl_new w _⟩
theorem clone_o (A : Option Addr) (n c : Nat) (h : Nat → Sh.Op) (w : World) (hr : OpRow w A n h) (hl : n ≤ 100000) (hA : A = none → n = 0) :
    Calls Try.prog 26 #[.slice A n c] w fun e w' => ∃ v, e = .returned v ∧ OwnO w' w.heap.size v (ol h n) ∧ Below w.heap.size w w' := by
  cases A with
  | none =>
    obtain rfl := hA rfl
    refine (clone_o_nil 0 c w).mono ?_
    rintro e w' ⟨rfl, rfl⟩
    exact ⟨_, rfl, OwnO.zero _ _, Below.refl _ _⟩
  | some a =>
    by_cases h0 : n = 0
    · subst h0
      exact clone_o_zero a c w
    · obtain ⟨b, o, e, _⟩ := hr 0 (by omega)
      cases e
      exact clone_o_some b o n c h w hr hl (by omega)
end Go.Proofs.Ytgkagigagcamoaa

