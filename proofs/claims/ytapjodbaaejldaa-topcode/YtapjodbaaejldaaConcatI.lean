
/-
The contract of slices.Concat at []int, of whatever rows of numbers (nil, empty, negative numbers).
-/
import Derived.Test.YtapjodbaaejldaaBase
import Derived.Lib.AppendZerosOnto
import Derived.Lib.Walk
import Derived.Handy
namespace Go.Proofs.Ytapjodbaaejldaa
open Go.RowKit

/-- A slice of the call's own, of no numbers yet. -/
def GrowIPost (w : World) (e : Ending) (w' : World) : Prop :=
  ∃ v, e = .returned v ∧ OwnI w' w.heap.size v [] ∧ Below w.heap.size w w'
set_option maxRecDepth 100000 in
theorem growI_some (n : Nat) (w : World) (h0 : 1 ≤ n) (hn : n ≤ 100000) : Calls Try.prog 192 #[.slice none 0 0, .int .i64 (n : Int)] w (GrowIPost w) := by
  obtain ⟨i0, hi, hz0, hz1, hz2⟩ := info_parts Try.infoInt
  have hrz : ∀ ty, (Builtin.append_ #[53, 3] ty #[.slice none 0 0, .int .i64 (n : Int)]).run Try.prog w =
      .ok (.slice (some ⟨w.heap.size, 0, none⟩) n (grownCap w n 0 3)) (w.drew.alloc (.cells ([].toArray ++ Builtin.zeroCells (Value.int .i64 0).cells n ++ Builtin.zeroCells (Value.int .i64 0).cells (grownCap w n 0 3 - n)) 3)) := fun ty => by
    have h := Lib.run_append_grow_zeros w 53 3 ty 3 i0 (.int .i64 0) .i64 .i64 Try.underlying53 Try.underlying3 hi hz0 none 0 0 [] (run_firstCells_none w.drew i0.size 0 0 0) n (by omega) (by rw [hz1]; decide) (by omega) (by omega) (by rw [hz2]; omega)
      (by rw [Nat.zero_add]; exact growslice_fits (by omega) (by rw [hz2]; omega))
    rw [Nat.zero_add] at h
    exact h
  have hG1 : n ≤ grownCap w n 0 3 := grownCap_ge w _ _ _
  have hG2 := grownCap_le_maxLen w n 0 3 (by unfold maxLen; omega)
  have hsz : ([].toArray ++ Builtin.zeroCells (Value.int .i64 0).cells n ++ Builtin.zeroCells (Value.int .i64 0).cells (grownCap w n 0 3 - n)).size = grownCap w n 0 3 * 1 := by
    have e1 : (Value.int .i64 0).cells.size = 1 := rfl
    simp [Builtin.zeroCells, e1]
    omega
  have hP : Hid (GrowIPost w (.returned (.slice (some ⟨w.heap.size, 0, none⟩) 0 (grownCap w n 0 3))) (w.drew.alloc (.cells ([].toArray ++ Builtin.zeroCells (Value.int .i64 0).cells n ++ Builtin.zeroCells (Value.int .i64 0).cells (grownCap w n 0 3 - n)) 3))) :=
    ⟨_, rfl, World.ownsRow_made (base := w.heap.size) (e := 3) (size := 1) w.drew _ _ (Nat.le_refl _) hG2 hsz, (bl_drewN (Below.refl _ w) 1).alloc (Nat.le_refl _) _⟩
  have h1 : decide ((n : Int) < 0) = false := decide_eq_false (by omega)
  have h4 : (0 : Int) < (n : Int) := by omega
  clear hsz hG1 hG2
  generalize grownCap w n 0 3 = G at *
  generalize w.drew.alloc (.cells ([].toArray ++ Builtin.zeroCells (Value.int .i64 0).cells n ++ Builtin.zeroCells (Value.int .i64 0).cells (G - n)) 3) = W at *
  go_enter Try.func192, Try.ntmps192
  go_wp2_with (at_builtin; refine Lib.wpList_append_run _ rfl _ _ _ _ rfl _ _ rfl rfl _ _ (hrz _) ?_)
  all_goals (go_ret; exact hP.out)
theorem growI_none (w : World) : Calls Try.prog 192 #[.slice none 0 0, .int .i64 0] w (GrowIPost w) := by
  go_enter Try.func192, Try.ntmps192
  go_wp2
  go_ret
  exact ⟨_, rfl, OwnI.zero _ _, Below.refl _ _⟩
theorem growI_all (n : Nat) (w : World) (hn : n ≤ 100000) : Calls Try.prog 192 #[.slice none 0 0, .int .i64 (n : Int)] w (GrowIPost w) := by
  by_cases h0 : n = 0
  · subst h0; exact growI_none w
  · exact growI_some n w (by omega) hn

/-- 'append(s, row...)' where the row is empty. -/
theorem run_append_nothing {P : Program} (w : World) (t ty e : TypeId) (i : TypeInfo) (ht : P.underlying t = some (.slice e)) (hi : P.info? e = some i) (base : Option Addr) (n cap : Nat) (hn : n ≤ cap) (x : Option Addr) (c : Nat) :
    (Builtin.append_ #[t, t] ty #[.slice base n cap, .slice x 0 c]).run P w = .ok (.slice base n cap) w := by
  have hfc : (Builtin.firstCells i.size 0 (.slice x 0 c)).run P w = .ok #[] w := by
    cases x with
    | none => exact run_firstCells_none ..
    | some a => exact run_firstCells_some w i.size 0 a 0 c [] (by simp) (by simp)
  cases base <;> simp [Builtin.append_, run_underlying ht, sizeOf, typeInfo, hi, Builtin.lenOf, hn, hfc, storeCells]
/-- The numbers of a row as a list. -/
def rowN' (g : Nat → Int) (m : Nat) : List Int := (List.range m).map g
theorem rowN'_len (g : Nat → Int) (m : Nat) : (rowN' g m).length = m := by unfold rowN'; simp
theorem rowN'_get {g : Nat → Int} {m k : Nat} (h : k < m) : (rowN' g m).getD k 0 = g k := by
  unfold rowN'
  rw [List.getD_eq_getElem?_getD, List.getElem?_map, List.getElem?_range h]
  rfl
theorem IRow.spot {w : World} {A : Option Addr} {n : Nat} {g : Nat → Int} (h : IRow w A n g) (hn : 0 < n) : ∃ b o, A = some ⟨b, o, none⟩ ∧ b < w.heap.size ∧ ∀ k, k < n → w.cell? ⟨b, o + k, none⟩ = some (.int .i64 (g k)) := by
  obtain ⟨b, o, rfl, hb, _⟩ := h 0 hn
  refine ⟨b, o, rfl, hb, fun k hk => ?_⟩
  obtain ⟨b', o', e, _, hc⟩ := h k hk
  injection e with e
  injection e with e1 e2
  subst e1; subst e2
  exact hc
theorem OwnI.cap {w : World} {base : Nat} {v : Value} {l : List Int} (h : OwnI w base v l) : ∃ A c, v = .slice A l.length c ∧ l.length ≤ c := by
  obtain ⟨A, c, e, _⟩ := h.irow
  refine ⟨A, c, e, ?_⟩
  rcases h.2 with ⟨rfl, h0⟩ | ⟨g, cap, cur, rfl, h1, h2, h3, _⟩
  · injection e with _ e2 e3
    omega
  · injection e with _ e2 e3
    omega
/-- 'out = append(out, row...)', out a row of the call's own, row whatever row of numbers. -/
theorem app_rowI {ops : Array Oper} {rest : List Oper} {o : Oper} {a : Act} {Q : Exit → Act → World → Prop} {wr : World} {L : List Int} {g : Nat → Int} {v : Value} {base m c : Nat} {B : Option Addr} (hgd : o.guard = none) (s x : Operand)
    (ho : o.op = .call { callee := .builtin .append, args := #[s, x], argTypes := #[53, 53] })
    (hs : a.eval s = v) (hown : OwnI wr base v L) (hx : a.eval x = .slice B m c) (hr : IRow wr B m g)
    (hbase : base ≤ wr.heap.size) (hlen : L.length + m ≤ 100000)
    (h : ∀ v' w', OwnI w' base v' (L ++ rowN' g m) → Below base wr w' → wpList Try.prog ops Q rest (a.put o.dst v') w') :
    wpList Try.prog ops Q (o :: rest) a wr := by
  obtain ⟨i0, hi, hz0, hz1, hz2⟩ := info_parts Try.infoInt
  by_cases h0 : m = 0
  · subst h0
    obtain ⟨A, cp, e, hcp⟩ := hown.cap
    subst e
    refine Lib.wpList_append_run wr hgd s x 53 53 ho _ _ hs hx _ _ (run_append_nothing wr 53 _ 3 i0 Try.underlying53 hi A _ cp hcp B c) ?_
    refine h _ wr ?_ (Below.refl _ _)
    have : rowN' g 0 = [] := rfl
    rw [this, List.append_nil]
    exact hown
  · obtain ⟨b, f, rfl, hb, hc⟩ := hr.spot (by omega)
    refine wpList_append_own _ hgd s x 53 ho base 3 i0 (.int .i64 0) 1 8 Try.underlying53 hi hz0 hz1 hz2 rfl (by decide) v _ _ hs hown ⟨b, f, none⟩ m c ((rowN' g m).map (Value.int .i64)) hx (by rw [List.length_map, rowN'_len, Nat.mul_one]) ?_ ?_ ?_ ?_ hbase ?_
    · intro j u hj
      rw [List.getElem?_map] at hj
      cases he : (rowN' g m)[j]? with
      | none => rw [he] at hj; cases hj
      | some y =>
        rw [he] at hj
        simp only [Option.map_some, Option.some.injEq] at hj
        rw [← hj, Addr.add_lit]
        obtain ⟨hjm, _⟩ := List.getElem?_eq_some_iff.1 he
        rw [rowN'_len] at hjm
        have e2 : y = g j := by
          have h3 := rowN'_get (g := g) hjm
          rw [List.getD_eq_getElem?_getD, he] at h3
          exact h3
        rw [e2]
        exact hc j hjm
    · intro u hu
      obtain ⟨y, _, rfl⟩ := List.mem_map.1 hu
      rfl
    · unfold maxLen; omega
    · omega
    · intro v' w' h1 h2 _
      refine h v' w' ?_ ((Below.refl _ _).grown h2 hbase fun k hk => (World.ownsRow.lt hown k hk).1)
      unfold OwnI
      rw [List.map_append, List.length_append, rowN'_len]
      exact h1
/-- The first i rows one after the other. -/
def catI (n : Nat → Nat) (g : Nat → Nat → Int) : Nat → List Int
  | 0 => []
  | i + 1 => catI n g i ++ rowN' (g i) (n i)
theorem catI_le (n : Nat → Nat) (g : Nat → Nat → Int) : ∀ {i m : Nat}, i ≤ m → (catI n g i).length ≤ (catI n g m).length
  | _, 0, h => by rw [Nat.le_zero.1 h]; exact Nat.le_refl _
  | i, m + 1, h => by
    by_cases e : i = m + 1
    · rw [e]; exact Nat.le_refl _
    · have := catI_le n g (i := i) (m := m) (by omega)
      show _ ≤ (catI n g m ++ rowN' (g m) (n m)).length
      rw [List.length_append]; omega
theorem catI_succ (n : Nat → Nat) (g : Nat → Nat → Int) (i : Nat) : (catI n g (i + 1)).length = (catI n g i).length + n i := by
  show (catI n g i ++ rowN' (g i) (n i)).length = _
  rw [List.length_append, rowN'_len]
/-- The parts of a [][]int. -/
def PartsI (w : World) (b o m : Nat) (n : Nat → Nat) (g : Nat → Nat → Int) : Prop :=
  ∀ k, k < m → ∃ A c, w.cell? ⟨b, o + k, none⟩ = some (.slice A (n k) c) ∧ IRow w A (n k) (g k)
def CatIPost (L : List Int) (w : World) (e : Ending) (w' : World) : Prop := ∃ v, e = .returned v ∧ OwnI w' w.heap.size v L ∧ Below w.heap.size w w'
set_option maxHeartbeats 1000000 in
theorem concatI_any (b o m c : Nat) (n : Nat → Nat) (g : Nat → Nat → Int) (w : World) (hb : b < w.heap.size) (h : PartsI w b o m n g) (h2 : (catI n g m).length ≤ 100000) (hm : m ≤ 1000) :
    Calls Try.prog 166 #[.slice (some ⟨b, o, none⟩) m c] w (CatIPost (catI n g m) w) := by
  have H := hid h
  have hG := growI_all (catI n g m).length w h2
  clear h
  go_enter Try.func166, Try.ntmps166
  go_wp2
  go_loopw [3, 11] (fun x y wr => ∃ i s : Nat, i ≤ m ∧ s ≤ 100000 ∧ x = .int .i64 (s : Int) ∧ y = .int .i64 (i : Int) ∧ Hid (s = (catI n g i).length) ∧ w = wr) (fun _ y _ => m - (intOf y).toNat)
  case atStart => exact ⟨0, 0, by omega, by omega, rfl, rfl, rfl, rfl⟩
  case round =>
    obtain ⟨i, s, hi, hs, rfl, rfl, HS, rfl⟩ := hrel
    by_cases hlt : i < m
    · have hlt' : (i : Int) < (m : Int) := by omega
      obtain ⟨A, ck, hc, _⟩ := H.out i hlt
      have HS2 : Hid (s + n i = (catI n g (i + 1)).length) := by
        show _ = _
        rw [catI_succ, HS.out]
      have hs2 : s + n i ≤ 100000 := by
        have := catI_le n g (i := i + 1) (m := m) (by omega)
        rw [HS2.out]; omega
      clear HS hG
      generalize n i = q at hc HS2 hs2
      obtain ⟨t, ht⟩ : ∃ t : Nat, t = s + q := ⟨_, rfl⟩
      have ht2 : (s : Int) + (q : Int) = (t : Int) := by omega
      have ht3 : decide ((t : Int) < 0) = false := decide_eq_false (by omega)
      rw [← ht] at HS2 hs2
      clear ht
      go_wp2
      go_roundw
      case measure => simp [intOf]; omega
      case rel => exact ⟨i + 1, t, by omega, by omega, by go_num, by go_num, HS2, by trivial⟩
    · have hdl : decide ((i : Int) < (m : Int)) = false := decide_eq_false (by omega)
      obtain rfl : m = i := by omega
      rw [← HS.out] at hG
      go_wp2_with fail
      with_reducible refine hG.mono ?_
      rintro e w1 ⟨v1, rfl, ho1, hb1⟩
      have HO := hid ho1
      have HB := hid hb1
      clear hG ho1 hb1 HS
      go_wp2
      go_loopw [6, 27] (fun x y wr => ∃ (v : Value) (i : Nat), v = x ∧ i ≤ m ∧ y = .int .i64 (i : Int) ∧ Hid (OwnI wr w.heap.size v (catI n g i)) ∧ Hid (Below w.heap.size w wr)) (fun _ y _ => m - (intOf y).toNat)
      case atStart => exact ⟨v1, 0, rfl, by omega, rfl, HO, HB⟩
      case round =>
        clear HO HB
        obtain ⟨v, i, rfl, hi, rfl, HO, HB⟩ := hrel
        by_cases hlt : i < m
        · have hlt' : (i : Int) < (m : Int) := by omega
          obtain ⟨A, ck, hc, hrow⟩ := H.out i hlt
          have hc1 := (HB.out.cell (p := ⟨b, o + i, none⟩) hb).trans hc
          have HX := hid (hrow.keep HB.out)
          have hl : (catI n g i).length + n i ≤ 100000 := by
            have := catI_le n g (i := i + 1) (m := m) (by omega)
            rw [catI_succ] at this
            omega
          have HL := hid hl
          clear hc hl hrow
          go_wp2_with (at_builtin; with_reducible refine app_rowI rfl _ _ rfl rfl HO.out rfl HX.out HB.out.size HL.out ?_)
          intro v2 w2 ho2 hb2
          have HO2 : Hid (OwnI w2 w.heap.size v2 (catI n g (i + 1))) := ho2
          have HB2 := hid (HB.out.trans hb2)
          clear ho2 hb2 HO HB hc1 HX HL
          go_wp2
          go_roundw
          case measure => simp [intOf]; omega
          case rel => exact ⟨v2, i + 1, rfl, by omega, by go_num, HO2, HB2⟩
        · have hdl : decide ((i : Int) < (m : Int)) = false := decide_eq_false (by omega)
          obtain rfl : m = i := by omega
          go_wp2
          go_ret
          exact ⟨_, rfl, HO.out, HB.out⟩
/-- Two rows in a row. -/
def twoN (n1 n2 : Nat) (k : Nat) : Nat := if k = 0 then n1 else n2
def twoG (g1 g2 : Nat → Int) (k : Nat) : Nat → Int := if k = 0 then g1 else g2
theorem catI_two (n1 n2 : Nat) (g1 g2 : Nat → Int) : catI (twoN n1 n2) (twoG g1 g2) 2 = rowN' g1 n1 ++ rowN' g2 n2 := rfl
theorem partsI_two {w : World} {N : Nat} {A1 A2 : Option Addr} {n1 n2 c1 c2 : Nat} {g1 g2 : Nat → Int} {t : TypeId} (hN : w.heap.size = N) (h1 : IRow w A1 n1 g1) (h2 : IRow w A2 n2 g2) : PartsI (w.alloc (.cells #[.slice A1 n1 c1, .slice A2 n2 c2] t)) N 0 2 (twoN n1 n2) (twoG g1 g2) := by
  subst hN
  have hb := bl_new w (.cells #[.slice A1 n1 c1, .slice A2 n2 c2] t)
  intro k hk
  match k, hk with
  | 0, _ => exact ⟨A1, c1, by rw [cell_of_row _ _ _ _ _ _ (heap_alloc_new w _)]; rfl, h1.keep hb⟩
  | 1, _ => exact ⟨A2, c2, by rw [cell_of_row _ _ _ _ _ _ (heap_alloc_new w _)]; rfl, h2.keep hb⟩
end Go.Proofs.Ytapjodbaaejldaa
