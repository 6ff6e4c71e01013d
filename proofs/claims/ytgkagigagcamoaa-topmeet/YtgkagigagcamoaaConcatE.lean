
/-
The contract of slices.Concat at []api.Edit, of whatever rows of edits.
-/
import Derived.Test.YtgkagigagcamoaaEvRow
import Derived.Lib.AppendZerosOnto
import Derived.Lib.Walk
import Derived.Handy
namespace Go.Proofs.Ytgkagigagcamoaa
open Go.RowKit

abbrev zEv : Value := .agg #[.int .i64 0, .int .i64 0, .string ⟨#[]⟩]
/-- A slice of the call's own, of no edits yet. -/
def GrowEPost (w : World) (e : Ending) (w' : World) : Prop :=
  ∃ v, e = .returned v ∧ OwnE w' w.heap.size v [] ∧ Below w.heap.size w w'
set_option maxRecDepth 100000 in
theorem growE_some (n : Nat) (w : World) (h0 : 1 ≤ n) (hn : n ≤ 100000) : Calls Try.prog 60 #[.slice none 0 0, .int .i64 (n : Int)] w (GrowEPost w) := by
  obtain ⟨i0, hi, hz0, hz1, hz2⟩ := info_parts Try.infoEv
  have hrz : ∀ ty, (Builtin.append_ #[54, 3] ty #[.slice none 0 0, .int .i64 (n : Int)]).run Try.prog w =
      .ok (.slice (some ⟨w.heap.size, 0, none⟩) n (grownCap w n 0 59)) (w.drew.alloc (.cells ([].toArray ++ Builtin.zeroCells zEv.cells n ++ Builtin.zeroCells zEv.cells (grownCap w n 0 59 - n)) 59)) := fun ty => by
    have h := Lib.run_append_grow_zeros w 54 3 ty 59 i0 zEv .i64 .i64 Try.underlying54 Try.underlying3 hi hz0 none 0 0 [] (run_firstCells_none w.drew i0.size 0 0 0) n (by omega) (by rw [hz1]; decide) (by omega) (by omega) (by rw [hz2]; omega)
      (by rw [Nat.zero_add]; exact growslice_fits (by omega) (by rw [hz2]; omega))
    rw [Nat.zero_add] at h
    exact h
  have hG1 : n ≤ grownCap w n 0 59 := grownCap_ge w _ _ _
  have hG2 := grownCap_le_maxLen w n 0 59 (by unfold maxLen; omega)
  have hsz : ([].toArray ++ Builtin.zeroCells zEv.cells n ++ Builtin.zeroCells zEv.cells (grownCap w n 0 59 - n)).size = grownCap w n 0 59 * 3 := by
    have e1 : zEv.cells.size = 3 := rfl
    simp [Builtin.zeroCells, e1]
    omega
  have hP : Hid (GrowEPost w (.returned (.slice (some ⟨w.heap.size, 0, none⟩) 0 (grownCap w n 0 59))) (w.drew.alloc (.cells ([].toArray ++ Builtin.zeroCells zEv.cells n ++ Builtin.zeroCells zEv.cells (grownCap w n 0 59 - n)) 59))) :=
    ⟨_, rfl, World.ownsRow_made (base := w.heap.size) (e := 59) (size := 3) w.drew _ _ (Nat.le_refl _) hG2 hsz, (bl_drewN (Below.refl _ w) 1).alloc (Nat.le_refl _) _⟩
  have h1 : decide ((n : Int) < 0) = false := decide_eq_false (by omega)
  have h4 : (0 : Int) < (n : Int) := by omega
  clear hsz hG1 hG2
  generalize grownCap w n 0 59 = G at *
  generalize w.drew.alloc (.cells ([].toArray ++ Builtin.zeroCells zEv.cells n ++ Builtin.zeroCells zEv.cells (G - n)) 59) = W at *
  go_enter Try.func60, Try.ntmps60
  go_wp2_with (at_builtin; refine Lib.wpList_append_run _ rfl _ _ _ _ rfl _ _ rfl rfl _ _ (hrz _) ?_)
  all_goals (go_ret; exact hP.out)
theorem growE_none (w : World) : Calls Try.prog 60 #[.slice none 0 0, .int .i64 0] w (GrowEPost w) := by
  go_enter Try.func60, Try.ntmps60
  go_wp2
  go_ret
  exact ⟨_, rfl, OwnE.zero _ _, Below.refl _ _⟩
theorem growE_all (n : Nat) (w : World) (hn : n ≤ 100000) : Calls Try.prog 60 #[.slice none 0 0, .int .i64 (n : Int)] w (GrowEPost w) := by
  by_cases h0 : n = 0
  · subst h0; exact growE_none w
  · exact growE_some n w (by omega) hn

/-- 'append(s, row...)' where the row is empty. -/
theorem run_appendE_nothing {P : Program} (w : World) (t ty e : TypeId) (i : TypeInfo) (ht : P.underlying t = some (.slice e)) (hi : P.info? e = some i) (base : Option Addr) (n cap : Nat) (hn : n ≤ cap) (x : Option Addr) (c : Nat) :
    (Builtin.append_ #[t, t] ty #[.slice base n cap, .slice x 0 c]).run P w = .ok (.slice base n cap) w := by
  have hfc : (Builtin.firstCells i.size 0 (.slice x 0 c)).run P w = .ok #[] w := by
    cases x with
    | none => exact run_firstCells_none ..
    | some a => exact run_firstCells_some w i.size 0 a 0 c [] (by simp) (by simp)
  cases base <;> simp [Builtin.append_, run_underlying ht, sizeOf, typeInfo, hi, Builtin.lenOf, hn, hfc, storeCells]
theorem EvRow.spot {w : World} {A : Option Addr} {n : Nat} {g : Nat → Es.Ev} (h : EvRow w A n g) (hn : 0 < n) : ∃ b o, A = some ⟨b, o, none⟩ ∧ b < w.heap.size ∧ ∀ k, k < n → w.cell? ⟨b, o + k * 3, none⟩ = some (.int .i64 (g k).a) ∧ w.cell? ⟨b, o + k * 3 + 1, none⟩ = some (.int .i64 (g k).d) ∧ w.cell? ⟨b, o + k * 3 + 2, none⟩ = some (.string (g k).s) := by
  obtain ⟨b, o, rfl, hb, _⟩ := h 0 hn
  refine ⟨b, o, rfl, hb, fun k hk => ?_⟩
  obtain ⟨b', o', e, _, hc⟩ := h k hk
  injection e with e
  injection e with e1 e2
  subst e1; subst e2
  exact hc
/-- 'out = append(out, row...)', out a row of the call's own, row whatever row of edits. -/
theorem app_rowE {ops : Array Oper} {rest : List Oper} {o : Oper} {a : Act} {Q : Exit → Act → World → Prop} {wr : World} {L : List Es.Ev} {g : Nat → Es.Ev} {v : Value} {base m c : Nat} {B : Option Addr} (hgd : o.guard = none) (s x : Operand)
    (ho : o.op = .call { callee := .builtin .append, args := #[s, x], argTypes := #[54, 54] })
    (hs : a.eval s = v) (hown : OwnE wr base v L) (hx : a.eval x = .slice B m c) (hr : EvRow wr B m g)
    (hbase : base ≤ wr.heap.size) (hlen : L.length + m ≤ 100000)
    (h : ∀ v' w', OwnE w' base v' (L ++ el g m) → Below base wr w' → wpList Try.prog ops Q rest (a.put o.dst v') w') :
    wpList Try.prog ops Q (o :: rest) a wr := by
  obtain ⟨i0, hi, hz0, hz1, hz2⟩ := info_parts Try.infoEv
  by_cases h0 : m = 0
  · subst h0
    obtain ⟨A, cp, e, hcp, _⟩ := hown.row
    subst e
    refine Lib.wpList_append_run wr hgd s x 54 54 ho _ _ hs hx _ _ (run_appendE_nothing wr 54 _ 59 i0 Try.underlying54 hi A _ cp hcp B c) ?_
    refine h _ wr ?_ (Below.refl _ _)
    have : el g 0 = [] := rfl
    rw [this, List.append_nil]
    exact hown
  · obtain ⟨b, f, rfl, hb, hc⟩ := hr.spot (by omega)
    refine wpList_append_own _ hgd s x 54 ho base 59 i0 zEv 3 32 Try.underlying54 hi hz0 hz1 hz2 rfl (by decide) v _ _ hs hown ⟨b, f, none⟩ m c ((el g m).flatMap evC) hx (by rw [ev_len, el_len]) ?_ ?_ ?_ ?_ hbase ?_
    · intro j u hj
      obtain ⟨hjm, _⟩ := List.getElem?_eq_some_iff.1 hj
      rw [ev_len, el_len] at hjm
      rw [Addr.add_lit]
      obtain ⟨k, r, hr3, rfl⟩ : ∃ k r, r < 3 ∧ j = k * 3 + r := ⟨j / 3, j % 3, Nat.mod_lt _ (by decide), by omega⟩
      have hk : k < m := by omega
      have hf := ev_flat (el g m) k (by rw [el_len]; exact hk)
      have e : (el g m)[k]'(by rw [el_len]; exact hk) = g k := by simp [el]
      rw [e] at hf
      obtain ⟨q1, q2, q3⟩ := hc k hk
      match r, hr3 with
      | 0, _ =>
        rw [Nat.add_zero, hf.1] at hj
        rw [← hj]; exact q1
      | 1, _ =>
        rw [hf.2.1] at hj
        rw [← hj, show f + (k * 3 + 1) = f + k * 3 + 1 by omega]; exact q2
      | 2, _ =>
        rw [hf.2.2] at hj
        rw [← hj, show f + (k * 3 + 2) = f + k * 3 + 2 by omega]; exact q3
    · intro u hu
      obtain ⟨y, _, hy⟩ := List.mem_flatMap.1 hu
      simp [evC] at hy
      rcases hy with rfl | rfl | rfl <;> rfl
    · unfold maxLen; omega
    · omega
    · intro v' w' h1 h2 _
      refine h v' w' ?_ ((Below.refl _ _).grown h2 hbase fun k hk => (World.ownsRow.lt hown k hk).1)
      unfold OwnE
      rw [List.flatMap_append, List.length_append, el_len]
      exact h1
/-- The first i rows one after the other. -/
def catE (n : Nat → Nat) (g : Nat → Nat → Es.Ev) : Nat → List Es.Ev
  | 0 => []
  | i + 1 => catE n g i ++ el (g i) (n i)
theorem catE_le (n : Nat → Nat) (g : Nat → Nat → Es.Ev) : ∀ {i m : Nat}, i ≤ m → (catE n g i).length ≤ (catE n g m).length
  | _, 0, h => by rw [Nat.le_zero.1 h]; exact Nat.le_refl _
  | i, m + 1, h => by
    by_cases e : i = m + 1
    · rw [e]; exact Nat.le_refl _
    · have := catE_le n g (i := i) (m := m) (by omega)
      show _ ≤ (catE n g m ++ el (g m) (n m)).length
      rw [List.length_append]; omega
theorem catE_succ (n : Nat → Nat) (g : Nat → Nat → Es.Ev) (i : Nat) : (catE n g (i + 1)).length = (catE n g i).length + n i := by
  show (catE n g i ++ el (g i) (n i)).length = _
  rw [List.length_append, el_len]
/-- The parts of a [][]api.Edit. -/
def PartsE (w : World) (b o m : Nat) (n : Nat → Nat) (g : Nat → Nat → Es.Ev) : Prop :=
  ∀ k, k < m → ∃ A c, w.cell? ⟨b, o + k, none⟩ = some (.slice A (n k) c) ∧ EvRow w A (n k) (g k)
def CatEPost (L : List Es.Ev) (w : World) (e : Ending) (w' : World) : Prop := ∃ v, e = .returned v ∧ OwnE w' w.heap.size v L ∧ Below w.heap.size w w'
set_option maxHeartbeats 1000000 in
theorem concatE_any (b o m c : Nat) (n : Nat → Nat) (g : Nat → Nat → Es.Ev) (w : World) (hb : b < w.heap.size) (h : PartsE w b o m n g) (h2 : (catE n g m).length ≤ 100000) (hm : m ≤ 1000) :
    Calls Try.prog 48 #[.slice (some ⟨b, o, none⟩) m c] w (CatEPost (catE n g m) w) := by
  have H := hid h
  have hG := growE_all (catE n g m).length w h2
  clear h
  go_enter Try.func48, Try.ntmps48
  go_wp2
  go_loopw [3, 11] (fun x y wr => ∃ i s : Nat, i ≤ m ∧ s ≤ 100000 ∧ x = .int .i64 (s : Int) ∧ y = .int .i64 (i : Int) ∧ Hid (s = (catE n g i).length) ∧ w = wr) (fun _ y _ => m - (intOf y).toNat)
  case atStart => exact ⟨0, 0, by omega, by omega, rfl, rfl, rfl, rfl⟩
  case round =>
    obtain ⟨i, s, hi, hs, rfl, rfl, HS, rfl⟩ := hrel
    by_cases hlt : i < m
    · have hlt' : (i : Int) < (m : Int) := by omega
      obtain ⟨A, ck, hc, _⟩ := H.out i hlt
      have HS2 : Hid (s + n i = (catE n g (i + 1)).length) := by
        show _ = _
        rw [catE_succ, HS.out]
      have hs2 : s + n i ≤ 100000 := by
        have := catE_le n g (i := i + 1) (m := m) (by omega)
        rw [HS2.out]; omega
      clear HS hG
      generalize n i = q at hc HS2 hs2
      obtain ⟨t, ht⟩ : ∃ t : Nat, t = s + q := ⟨_, rfl⟩
      have ht2 : (s : Int) + (q : Int) = (t : Int) := by omega
      have ht3 : decide ((t : Int) < 0) = false := decide_eq_false (by omega)
      rw [← ht] at HS2 hs2
      clear ht
      go_wp2
      go_roundw
      case measure => simp [intOf]; omega
      case rel => exact ⟨i + 1, t, by omega, by omega, by go_num, by go_num, HS2, by trivial⟩
    · have hdl : decide ((i : Int) < (m : Int)) = false := decide_eq_false (by omega)
      obtain rfl : m = i := by omega
      rw [← HS.out] at hG
      go_wp2_with fail
      with_reducible refine hG.mono ?_
      rintro e w1 ⟨v1, rfl, ho1, hb1⟩
      have HO := hid ho1
      have HB := hid hb1
      clear hG ho1 hb1 HS
      go_wp2
      go_loopw [6, 27] (fun x y wr => ∃ (v : Value) (i : Nat), v = x ∧ i ≤ m ∧ y = .int .i64 (i : Int) ∧ Hid (OwnE wr w.heap.size v (catE n g i)) ∧ Hid (Below w.heap.size w wr)) (fun _ y _ => m - (intOf y).toNat)
      case atStart => exact ⟨v1, 0, rfl, by omega, rfl, HO, HB⟩
      case round =>
        clear HO HB
        obtain ⟨v, i, rfl, hi, rfl, HO, HB⟩ := hrel
        by_cases hlt : i < m
        · have hlt' : (i : Int) < (m : Int) := by omega
          obtain ⟨A, ck, hc, hrow⟩ := H.out i hlt
          have hc1 := (HB.out.cell (p := ⟨b, o + i, none⟩) hb).trans hc
          have HX := hid (hrow.keep HB.out)
          have hl : (catE n g i).length + n i ≤ 100000 := by
            have := catE_le n g (i := i + 1) (m := m) (by omega)
            rw [catE_succ] at this
            omega
          have HL := hid hl
          clear hc hl hrow
          go_wp2_with (at_builtin; with_reducible refine app_rowE rfl _ _ rfl rfl HO.out rfl HX.out HB.out.size HL.out ?_)
          intro v2 w2 ho2 hb2
          have HO2 : Hid (OwnE w2 w.heap.size v2 (catE n g (i + 1))) := ho2
          have HB2 := hid (HB.out.trans hb2)
          clear ho2 hb2 HO HB hc1 HX HL
          go_wp2
          go_roundw
          case measure => simp [intOf]; omega
          case rel => exact ⟨v2, i + 1, rfl, by omega, by go_num, HO2, HB2⟩
        · have hdl : decide ((i : Int) < (m : Int)) = false := decide_eq_false (by omega)
          obtain rfl : m = i := by omega
          go_wp2
          go_ret
          exact ⟨_, rfl, HO.out, HB.out⟩
/-- Two rows in a row. -/
def twoNE (n1 n2 : Nat) (k : Nat) : Nat := if k = 0 then n1 else n2
def twoGE (g1 g2 : Nat → Es.Ev) (k : Nat) : Nat → Es.Ev := if k = 0 then g1 else g2
theorem catE_two (n1 n2 : Nat) (g1 g2 : Nat → Es.Ev) : catE (twoNE n1 n2) (twoGE g1 g2) 2 = el g1 n1 ++ el g2 n2 := rfl
theorem partsE_two {w : World} {N : Nat} {A1 A2 : Option Addr} {n1 n2 c1 c2 : Nat} {g1 g2 : Nat → Es.Ev} {t : TypeId} (hN : w.heap.size = N) (h1 : EvRow w A1 n1 g1) (h2 : EvRow w A2 n2 g2) : PartsE (w.alloc (.cells #[.slice A1 n1 c1, .slice A2 n2 c2] t)) N 0 2 (twoNE n1 n2) (twoGE g1 g2) := by
  subst hN
  have hb := bl_new w (.cells #[.slice A1 n1 c1, .slice A2 n2 c2] t)
  intro k hk
  match k, hk with
  | 0, _ => exact ⟨A1, c1, by rw [cell_of_row _ _ _ _ _ _ (heap_alloc_new w _)]; rfl, h1.keep hb⟩
  | 1, _ => exact ⟨A2, c2, by rw [cell_of_row _ _ _ _ _ _ (heap_alloc_new w _)]; rfl, h2.keep hb⟩
end Go.Proofs.Ytgkagigagcamoaa
