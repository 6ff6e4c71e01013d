
/-
The contracts of slices.Grow of nil and slices.Concat of two, at []int, and of tree.join.
-/
import Derived.Test.YtapjodbaaejldaaBrSort
import Derived.Lib.AppendZerosOnto
import Derived.Lib.Walk
import Derived.Handy
namespace Go.Proofs.Ytapjodbaaejldaa
open Go.RowKit

/-- A slice of the call's own, of no numbers yet. -/
def GrowPost (w : World) (e : Ending) (w' : World) : Prop :=
  ∃ v, e = .returned v ∧ OwnI w' w.heap.size v [] ∧ Below w.heap.size w w'
set_option maxRecDepth 100000 in
theorem growI_any (n : Nat) (w : World) (h0 : 1 ≤ n) (hn : n ≤ 1000) : Calls Try.prog 192 #[.slice none 0 0, .int .i64 (n : Int)] w (GrowPost w) := by
  obtain ⟨i0, hi, hz0, hz1, hz2⟩ := info_parts Try.infoInt
  have hrz : ∀ ty, (Builtin.append_ #[53, 3] ty #[.slice none 0 0, .int .i64 (n : Int)]).run Try.prog w =
      .ok (.slice (some ⟨w.heap.size, 0, none⟩) n (grownCap w n 0 3)) (w.drew.alloc (.cells ([].toArray ++ Builtin.zeroCells (Value.int .i64 0).cells n ++ Builtin.zeroCells (Value.int .i64 0).cells (grownCap w n 0 3 - n)) 3)) := fun ty => by
    have h := Lib.run_append_grow_zeros w 53 3 ty 3 i0 (.int .i64 0) .i64 .i64 Try.underlying53 Try.underlying3 hi hz0 none 0 0 [] (run_firstCells_none w.drew i0.size 0 0 0) n (by omega) (by rw [hz1]; decide) (by omega) (by omega) (by rw [hz2]; omega)
      (by rw [Nat.zero_add]; exact growslice_fits (by omega) (by rw [hz2]; omega))
    rw [Nat.zero_add] at h
    exact h
  have hG1 : n ≤ grownCap w n 0 3 := grownCap_ge w _ _ _
  have hG2 := grownCap_le_maxLen w n 0 3 (by unfold maxLen; omega)
  have hsz : ([].toArray ++ Builtin.zeroCells (Value.int .i64 0).cells n ++ Builtin.zeroCells (Value.int .i64 0).cells (grownCap w n 0 3 - n)).size = grownCap w n 0 3 * 1 := by
    have e1 : (Value.int .i64 0).cells.size = 1 := rfl
    simp [Builtin.zeroCells, e1]
    omega
  have hP : Hid (GrowPost w (.returned (.slice (some ⟨w.heap.size, 0, none⟩) 0 (grownCap w n 0 3))) (w.drew.alloc (.cells ([].toArray ++ Builtin.zeroCells (Value.int .i64 0).cells n ++ Builtin.zeroCells (Value.int .i64 0).cells (grownCap w n 0 3 - n)) 3))) :=
    ⟨_, rfl, World.ownsRow_made (base := w.heap.size) (e := 3) (size := 1) w.drew _ _ (Nat.le_refl _) hG2 hsz, (bl_drewN (Below.refl _ w) 1).alloc (Nat.le_refl _) _⟩
  have h1 : decide ((n : Int) < 0) = false := decide_eq_false (by omega)
  have h4 : (0 : Int) < (n : Int) := by omega
  clear hsz hG1 hG2
  generalize grownCap w n 0 3 = G at *
  generalize w.drew.alloc (.cells ([].toArray ++ Builtin.zeroCells (Value.int .i64 0).cells n ++ Builtin.zeroCells (Value.int .i64 0).cells (G - n)) 3) = W at *
  go_enter Try.func192, Try.ntmps192
  go_wp2_with (at_builtin; refine Lib.wpList_append_run _ rfl _ _ _ _ rfl _ _ rfl rfl _ _ (hrz _) ?_)
  all_goals (go_ret; exact hP.out)

def lI (L : List Nat) : List Int := L.map fun x : Nat => (x : Int)
/-- 'out = append(out, row...)', out a row of the call's own, row another. -/
theorem app_row {ops : Array Oper} {rest : List Oper} {o : Oper} {a : Act} {Q : Exit → Act → World → Prop} {wr : World} {L M : List Nat} {v : Value} {base b f c m : Nat} (hgd : o.guard = none) (s x : Operand)
    (ho : o.op = .call { callee := .builtin .append, args := #[s, x], argTypes := #[53, 53] })
    (hs : a.eval s = v) (hown : OwnI wr base v (lI L)) (hx : a.eval x = .slice (some ⟨b, f, none⟩) m c) (hm : m = M.length)
    (hc : ∀ (j y : Nat), M[j]? = some y → wr.cell? ⟨b, f + j, none⟩ = some (.int .i64 (y : Int)))
    (hbase : base ≤ wr.heap.size) (hlen : L.length + M.length ≤ 1000)
    (h : ∀ v' w', OwnI w' base v' (lI (L ++ M)) → Below base wr w' → wpList Try.prog ops Q rest (a.put o.dst v') w') :
    wpList Try.prog ops Q (o :: rest) a wr := by
  obtain ⟨i0, hi, hz0, hz1, hz2⟩ := info_parts Try.infoInt
  have hl : (lI L).length = L.length := by unfold lI; simp
  refine wpList_append_own _ hgd s x 53 ho base 3 i0 (.int .i64 0) 1 8 Try.underlying53 hi hz0 hz1 hz2 rfl (by decide) v _ _ hs hown ⟨b, f, none⟩ m c (M.map fun y : Nat => .int .i64 (y : Int)) hx (by rw [List.length_map, hm, Nat.mul_one]) ?_ ?_ ?_ ?_ hbase ?_
  · intro j u hj
    rw [List.getElem?_map] at hj
    cases he : M[j]? with
    | none => rw [he] at hj; cases hj
    | some y =>
      rw [he] at hj
      simp only [Option.map_some, Option.some.injEq] at hj
      rw [← hj, Addr.add_lit]
      exact hc j y he
  · intro u hu
    obtain ⟨y, _, rfl⟩ := List.mem_map.1 hu
    rfl
  · rw [hl, hm]; unfold maxLen; omega
  · rw [hl, hm]; omega
  · intro v' w' h1 h2 _
    refine h v' w' ?_ ((Below.refl _ _).grown h2 hbase fun k hk => (World.ownsRow.lt hown k hk).1)
    unfold OwnI
    have e : lI (L ++ M) = lI L ++ lI M := by unfold lI; rw [List.map_append]
    rw [e, List.map_append, List.length_append]
    have e2 : (lI M).map (Value.int .i64) = M.map fun y : Nat => Value.int .i64 (y : Int) := by unfold lI; rw [List.map_map]; rfl
    have e3 : (lI M).length = m := by unfold lI; rw [List.length_map, hm]
    rw [e2, e3]
    exact h1
/-- The first i of the lists one after the other. -/
def cat (f : Nat → List Nat) : Nat → List Nat
  | 0 => []
  | i + 1 => cat f i ++ f i
theorem cat_le (f : Nat → List Nat) : ∀ {i n : Nat}, i ≤ n → (cat f i).length ≤ (cat f n).length
  | _, 0, h => by rw [Nat.le_zero.1 h]; exact Nat.le_refl _
  | i, n + 1, h => by
    by_cases e : i = n + 1
    · rw [e]; exact Nat.le_refl _
    · have := cat_le f (i := i) (n := n) (by omega)
      show _ ≤ (cat f n ++ f n).length
      rw [List.length_append]; omega
/-- The parts of a [][]int. -/
def Parts (w : World) (b o n : Nat) (f : Nat → List Nat) : Prop :=
  ∀ k, k < n → ∃ bk ok ck, w.cell? ⟨b, o + k, none⟩ = some (.slice (some ⟨bk, ok, none⟩) (f k).length ck) ∧ bk < w.heap.size ∧ ∀ (j x : Nat), (f k)[j]? = some x → w.cell? ⟨bk, ok + j, none⟩ = some (.int .i64 (x : Int))
def CatPost (L : List Nat) (w : World) (e : Ending) (w' : World) : Prop := ∃ v, e = .returned v ∧ OwnI w' w.heap.size v (lI L) ∧ Below w.heap.size w w'
set_option maxHeartbeats 1000000 in
theorem concat_any (b o n c : Nat) (f : Nat → List Nat) (w : World) (hb : b < w.heap.size) (h : Parts w b o n f) (h1 : 1 ≤ (cat f n).length) (h2 : (cat f n).length ≤ 1000) (hn : n ≤ 1000) :
    Calls Try.prog 166 #[.slice (some ⟨b, o, none⟩) n c] w (CatPost (cat f n) w) := by
  have H := hid h
  have hG := growI_any (cat f n).length w h1 h2
  clear h
  go_enter Try.func166, Try.ntmps166
  go_wp2
  go_loopw [3, 11] (fun x y wr => ∃ i s : Nat, i ≤ n ∧ s ≤ 1000 ∧ x = .int .i64 (s : Int) ∧ y = .int .i64 (i : Int) ∧ Hid (s = (cat f i).length) ∧ w = wr) (fun _ y _ => n - (intOf y).toNat)
  case atStart => exact ⟨0, 0, by omega, by omega, rfl, rfl, rfl, rfl⟩
  case round =>
    obtain ⟨i, s, hi, hs, rfl, rfl, HS, rfl⟩ := hrel
    by_cases hlt : i < n
    · have hlt' : (i : Int) < (n : Int) := by omega
      obtain ⟨bk, ok, ck, hc, _, _⟩ := H.out i hlt
      have HS2 : Hid (s + (f i).length = (cat f (i + 1)).length) := by
        show _ = (cat f i ++ f i).length
        rw [List.length_append, HS.out]
      have hs2 : s + (f i).length ≤ 1000 := by
        have := cat_le f (i := i + 1) (n := n) (by omega)
        rw [HS2.out]; omega
      clear HS hG
      generalize (f i).length = m at hc HS2 hs2
      obtain ⟨t, ht⟩ : ∃ t : Nat, t = s + m := ⟨_, rfl⟩
      have ht2 : (s : Int) + (m : Int) = (t : Int) := by omega
      have ht3 : decide ((t : Int) < 0) = false := decide_eq_false (by omega)
      rw [← ht] at HS2 hs2
      clear ht
      go_wp2
      go_roundw
      case measure => simp [intOf]; omega
      case rel => exact ⟨i + 1, t, by omega, by omega, by go_num, by go_num, HS2, by trivial⟩
    · have hdl : decide ((i : Int) < (n : Int)) = false := decide_eq_false (by omega)
      obtain rfl : n = i := by omega
      rw [← HS.out] at hG h1
      go_wp2_with fail
      with_reducible refine hG.mono ?_
      rintro e w1 ⟨v1, rfl, ho1, hb1⟩
      have HO := hid ho1
      have HB := hid hb1
      clear hG ho1 hb1 HS
      go_wp2
      go_loopw [6, 27] (fun x y wr => ∃ (v : Value) (i : Nat), v = x ∧ i ≤ n ∧ y = .int .i64 (i : Int) ∧ Hid (OwnI wr w.heap.size v (lI (cat f i))) ∧ Hid (Below w.heap.size w wr)) (fun _ y _ => n - (intOf y).toNat)
      case atStart => exact ⟨v1, 0, rfl, by omega, rfl, HO, HB⟩
      case round =>
        clear HO HB
        obtain ⟨v, i, rfl, hi, rfl, HO, HB⟩ := hrel
        by_cases hlt : i < n
        · have hlt' : (i : Int) < (n : Int) := by omega
          obtain ⟨bk, ok, ck, hc, hbk, hx⟩ := H.out i hlt
          have hc1 := (HB.out.cell (p := ⟨b, o + i, none⟩) hb).trans hc
          have HX := hid (fun (j x : Nat) (hj : (f i)[j]? = some x) => (HB.out.cell (p := ⟨bk, ok + j, none⟩) hbk).trans (hx j x hj))
          have hl : (cat f i).length + (f i).length ≤ 1000 := by
            have := cat_le f (i := i + 1) (n := n) (by omega)
            have e : (cat f (i + 1)).length = (cat f i).length + (f i).length := by
              show (cat f i ++ f i).length = _
              rw [List.length_append]
            omega
          obtain ⟨m, hm⟩ : ∃ m, m = (f i).length := ⟨_, rfl⟩
          have HM := hid hm
          have HL := hid hl
          rw [← hm] at hc1
          clear hx hc hm hl
          go_wp2_with (at_builtin; with_reducible refine app_row rfl _ _ rfl rfl HO.out rfl HM.out HX.out HB.out.size HL.out ?_)
          intro v2 w2 ho2 hb2
          have HO2 : Hid (OwnI w2 w.heap.size v2 (lI (cat f (i + 1)))) := ho2
          have HB2 := hid (HB.out.trans hb2)
          clear ho2 hb2 HO HB hc1 HX HM HL
          go_wp2
          go_roundw
          case measure => simp [intOf]; omega
          case rel => exact ⟨v2, i + 1, rfl, by omega, by go_num, HO2, HB2⟩
        · have hdl : decide ((i : Int) < (n : Int)) = false := decide_eq_false (by omega)
          obtain rfl : n = i := by omega
          go_wp2
          go_ret
          exact ⟨_, rfl, HO.out, HB.out⟩
theorem OwnI.leaf {w : World} {base : Nat} {v : Value} {L : List Nat} (h : OwnI w base v (lI L)) (h1 : 1 ≤ L.length) : Leaf w v L := by
  have hl : (lI L).length = L.length := by unfold lI; simp
  have hcell := fun g cap (e : v = .slice (some ⟨g, 0, none⟩) (lI L).length cap) (k : Nat) (hk : k < (lI L).length) => World.ownsRow.cellAt (e ▸ h) k (by simpa using hk)
  have hlt := World.ownsRow.lt h
  rcases h.2 with ⟨rfl, h0⟩ | ⟨g, cap, cur, rfl, _, _, h3, _⟩
  · rw [hl] at h0; omega
  · refine ⟨g, 0, cap, by rw [hl], by rw [← hl]; exact h3, (hlt g rfl).2, fun j x hj => ?_⟩
    have hk : j < (lI L).length := by
      rw [hl]
      exact (List.getElem?_eq_some_iff.1 hj).1
    rw [Nat.zero_add, hcell g cap rfl j hk]
    unfold lI
    rw [List.map_map, List.getElem?_map, hj]
    rfl
def two (L M : List Nat) (k : Nat) : List Nat := if k = 0 then L else M
theorem cat_two (L M : List Nat) : cat (two L M) 2 = L ++ M := rfl
theorem parts_two {w : World} {N : Nat} {v u : Value} {L M : List Nat} {t : TypeId} (hN : w.heap.size = N) (hv : Leaf w v L) (hu : Leaf w u M) : Parts (w.alloc (.cells #[v, u] t)) N 0 2 (two L M) := by
  subst hN
  have hb := bl_new w (.cells #[v, u] t)
  obtain ⟨b1, o1, c1, rfl, _, hl1, hx1⟩ := hv
  obtain ⟨b2, o2, c2, rfl, _, hl2, hx2⟩ := hu
  intro k hk
  have hlt : ∀ {b}, b < w.heap.size → b < (w.alloc (.cells #[.slice (some ⟨b1, o1, none⟩) L.length c1, .slice (some ⟨b2, o2, none⟩) M.length c2] t)).heap.size := fun h => Nat.lt_of_lt_of_le h hb.size
  match k, hk with
  | 0, _ => exact ⟨b1, o1, c1, by rw [cell_of_row _ _ _ _ _ _ (heap_alloc_new w _)]; rfl, hlt hl1, fun j x hj => (hb.cell (p := ⟨b1, o1 + j, none⟩) hl1).trans (hx1 j x hj)⟩
  | 1, _ => exact ⟨b2, o2, c2, by rw [cell_of_row _ _ _ _ _ _ (heap_alloc_new w _)]; rfl, hlt hl2, fun j x hj => (hb.cell (p := ⟨b2, o2 + j, none⟩) hl2).trans (hx2 j x hj)⟩
def JoinPost (x y : Br) (w : World) (e : Ending) (w' : World) : Prop :=
  ∃ v, e = .returned (brV (x.1 + y.1, v, x.2.2 ++ y.2.2)) ∧ Leaf w' v (x.2.2 ++ y.2.2) ∧ (∀ k, v.ownBlock = some k → w.heap.size ≤ k) ∧ Below w.heap.size w w'
/-- What Concat leaves of two. -/
def Cat2Post (L : List Nat) (w : World) (e : Ending) (w' : World) : Prop :=
  ∃ b o n c, e = .returned (.slice (some ⟨b, o, none⟩) n c) ∧ Hid (Leaf w' (.slice (some ⟨b, o, none⟩) n c) L) ∧ w.heap.size ≤ b ∧ Below w.heap.size w w'
theorem concat_two {L M : List Nat} {N : Nat} {w : World} (hb : N < w.heap.size) (h : Parts w N 0 2 (two L M)) (h1 : 1 ≤ L.length) (h2 : L.length + M.length ≤ 1000) :
    Calls Try.prog 166 #[.slice (some ⟨N, 0, none⟩) 2 2] w (Cat2Post (L ++ M) w) := by
  refine (concat_any N 0 2 2 (two L M) w hb h (by rw [cat_two, List.length_append]; omega) (by rw [cat_two, List.length_append]; omega) (by decide)).mono ?_
  rintro e w1 ⟨v, rfl, ho, hb1⟩
  rw [cat_two] at ho
  have hl := World.ownsRow.lt ho
  have hL := OwnI.leaf ho (by rw [List.length_append]; omega)
  have hL2 := hL
  obtain ⟨b, o, c, rfl, _⟩ := hL2
  exact ⟨b, o, _, c, rfl, hL, (hl b rfl).1, hb1⟩
theorem set_past {w : World} {N : Nat} {v u : Value} {a : Addr} (h : a.block ≠ N) : ((w.setCell ⟨N, 0, none⟩ v).setCell ⟨N, 1, none⟩ u).cell? a = w.cell? a := by
  have hn : ∀ i, (⟨N, i, none⟩ : Addr) ≠ a := fun i e => h (by rw [← e])
  rw [World.cell?_setCell_other _ _ _ _ (hn 1), World.cell?_setCell_other _ _ _ _ (hn 0)]
theorem cellsJ {w w' : World} {N : Nat} {v1 v2 v3 v4 : Option Value} (k : Below w.heap.size w w') (hlt : N + 1 + 1 < w.heap.size) (h1 : w.cell? ⟨N, 0, none⟩ = v1) (h2 : w.cell? ⟨N, 1, none⟩ = v2) (h3 : w.cell? ⟨N + 1, 0, none⟩ = v3) (h4 : w.cell? ⟨N + 1, 1, none⟩ = v4) :
    w'.cell? ⟨N, 0, none⟩ = v1 ∧ w'.cell? ⟨N, 1, none⟩ = v2 ∧ w'.cell? ⟨N + 1, 0, none⟩ = v3 ∧ w'.cell? ⟨N + 1, 1, none⟩ = v4 :=
  ⟨(k.cell (p := ⟨N, 0, none⟩) (by simp; omega)).trans h1, (k.cell (p := ⟨N, 1, none⟩) (by simp; omega)).trans h2, (k.cell (p := ⟨N + 1, 0, none⟩) (by simp; omega)).trans h3, (k.cell (p := ⟨N + 1, 1, none⟩) (by simp; omega)).trans h4⟩
set_option maxHeartbeats 1000000 in
theorem join_any (x y : Br) (w : World) (hx : Leaf w x.2.1 x.2.2) (hy : Leaf w y.2.1 y.2.2) (wx : x.1 ≤ 1000000) (wy : y.1 ≤ 1000000) (h1 : 1 ≤ x.2.2.length) (h2 : x.2.2.length + y.2.2.length ≤ 1000) :
    Calls Try.prog 138 #[brV x, brV y] w (JoinPost x y w) := by
  obtain ⟨X, xv, Lx⟩ := x
  obtain ⟨Y, yv, Ly⟩ := y
  have hxs : ∃ A n c, xv = .slice A n c := by obtain ⟨b, o, c, h, _⟩ := hx; exact ⟨_, _, _, h⟩
  have hys : ∃ A n c, yv = .slice A n c := by obtain ⟨b, o, c, h, _⟩ := hy; exact ⟨_, _, _, h⟩
  obtain ⟨Ax, nx, cx, rfl⟩ := hxs
  obtain ⟨Ay, ny, cy, rfl⟩ := hys
  obtain ⟨W3, hW⟩ : ∃ W3, W3 = ((w.alloc (.cells #[.int .i64 (X : Int), .slice Ax nx cx] 160)).alloc (.cells #[.int .i64 (Y : Int), .slice Ay ny cy] 160)).alloc (.cells #[.int .i64 0, .slice none 0 0] 160) := ⟨_, rfl⟩
  have hb0 := bl_new w (.cells #[.int .i64 (X : Int), .slice Ax nx cx] 160)
  have hb1 := bl_new (w.alloc (.cells #[.int .i64 (X : Int), .slice Ax nx cx] 160)) (.cells #[.int .i64 (Y : Int), .slice Ay ny cy] 160)
  have hb2 := bl_new ((w.alloc (.cells #[.int .i64 (X : Int), .slice Ax nx cx] 160)).alloc (.cells #[.int .i64 (Y : Int), .slice Ay ny cy] 160)) (.cells #[.int .i64 0, .slice none 0 0] 160)
  have HB : Hid (Below w.heap.size w W3) := by
    show Below _ _ _
    rw [hW]; exact bl_then (bl_then hb0 hb1) hb2
  have c1 : W3.cell? ⟨w.heap.size, 0, none⟩ = some (.int .i64 (X : Int)) := by
    rw [hW, (hb1.trans (hb2.mono hb1.size)).cell (p := ⟨w.heap.size, 0, none⟩) (by simp), cell_of_row _ _ _ _ _ _ (heap_alloc_new w _)]; rfl
  have c2 : W3.cell? ⟨w.heap.size, 1, none⟩ = some (.slice Ax nx cx) := by
    rw [hW, (hb1.trans (hb2.mono hb1.size)).cell (p := ⟨w.heap.size, 1, none⟩) (by simp), cell_of_row _ _ _ _ _ _ (heap_alloc_new w _)]; rfl
  have c3 : W3.cell? ⟨w.heap.size + 1, 0, none⟩ = some (.int .i64 (Y : Int)) := by
    rw [hW, hb2.cell (p := ⟨w.heap.size + 1, 0, none⟩) (by simp)]; simp
  have c4 : W3.cell? ⟨w.heap.size + 1, 1, none⟩ = some (.slice Ay ny cy) := by
    rw [hW, hb2.cell (p := ⟨w.heap.size + 1, 1, none⟩) (by simp)]; simp
  have hsz : w.heap.size + 1 + 1 = ((w.alloc (.cells #[.int .i64 (X : Int), .slice Ax nx cx] 160)).alloc (.cells #[.int .i64 (Y : Int), .slice Ay ny cy] 160)).heap.size := by simp
  have c5 : W3.cell? ⟨w.heap.size + 1 + 1, 0, none⟩ = some (.int .i64 0) := by
    rw [hW, hsz, cell_of_row _ _ _ _ _ _ (heap_alloc_new _ _)]; rfl
  have c6 : W3.cell? ⟨w.heap.size + 1 + 1, 1, none⟩ = some (.slice none 0 0) := by
    rw [hW, hsz, cell_of_row _ _ _ _ _ _ (heap_alloc_new _ _)]; rfl
  have hs3 : W3.heap.size = w.heap.size + 1 + 1 + 1 := by rw [hW]; simp
  have hf : ∀ j, W3.frozen? ⟨w.heap.size + 1 + 1, j, none⟩ = false := fun j => by
    rw [hW, hsz, World.frozen?_alloc_at _ _ _ _ rfl]
  have c7 := hf 0
  have c8 := hf 1
  have HX := hid (hx.below HB.out)
  have HY := hid (hy.below HB.out)
  clear hb0 hb1 hb2 hsz hf hx hy
  obtain ⟨W4, hW4⟩ : ∃ W4, W4 = (W3.alloc (.cells #[.slice Ax nx cx, .slice Ay ny cy] 53)).drew := ⟨_, rfl⟩
  have hb4 : Below W3.heap.size W3 W4 := by rw [hW4]; exact bl_drewN (bl_new W3 _) 1
  have hPt : Parts W4 (w.heap.size + 1 + 1 + 1) 0 2 (two Lx Ly) := by rw [hW4]; exact parts_two hs3 HX.out HY.out
  have hsz4 : W4.heap.size = w.heap.size + 1 + 1 + 1 + 1 := by rw [hW4, ← hs3]; simp
  have HC := hid (concat_two (by omega) hPt h1 h2)
  have d1 := (hb4.cell (p := ⟨w.heap.size, 0, none⟩) (by simp; omega)).trans c1
  have d2 := (hb4.cell (p := ⟨w.heap.size, 1, none⟩) (by simp; omega)).trans c2
  have d3 := (hb4.cell (p := ⟨w.heap.size + 1, 0, none⟩) (by simp; omega)).trans c3
  have d4 := (hb4.cell (p := ⟨w.heap.size + 1, 1, none⟩) (by simp; omega)).trans c4
  have d5 := (hb4.cell (p := ⟨w.heap.size + 1 + 1, 0, none⟩) (by simp; omega)).trans c5
  have d6 := (hb4.cell (p := ⟨w.heap.size + 1 + 1, 1, none⟩) (by simp; omega)).trans c6
  have D7 := hid (hb4.block (w.heap.size + 1 + 1) (by omega))
  have hlt4 : w.heap.size + 1 + 1 < W4.heap.size := Nat.lt_of_lt_of_le (by omega) hb4.size
  have HB4 := hid (bl_then HB.out hb4)
  clear hb4 hPt HB
  go_enter Try.func138, Try.ntmps138
  go_wp2_with fail
  rw [← hW]
  clear hW
  have hXY : IntKind.i64.wrap ((X : Int) + (Y : Int)) = (X : Int) + (Y : Int) := IntWalk.i64_in _ (by omega)
  go_region_held3 (fun W => W.cell? ⟨w.heap.size, 0, none⟩ = some (.int .i64 (X : Int)) ∧ W.cell? ⟨w.heap.size, 1, none⟩ = some (.slice Ax nx cx) ∧ W.cell? ⟨w.heap.size + 1, 0, none⟩ = some (.int .i64 (Y : Int)) ∧ W.cell? ⟨w.heap.size + 1, 1, none⟩ = some (.slice Ay ny cy)) (first | exact ⟨c1, c2, c3, c4⟩ | (rw [← hW4]; exact ⟨d1, d2, d3, d4⟩) | assumption | exact ⟨(set_past (by dsimp only; omega)).trans hS8.1, (set_past (by dsimp only; omega)).trans hS8.2.1, (set_past (by dsimp only; omega)).trans hS8.2.2.1, (set_past (by dsimp only; omega)).trans hS8.2.2.2⟩) (first | (go_at_call 166; rw [← hW4]; (with_reducible refine HC.out.mono ?_); rintro e w8 ⟨b8, o8, n8, k8, rfl, HL8, hb9, hb8⟩; have HN8 := hid hb9; have hS8 := cellsJ hb8 hlt4 d1 d2 d3 d4; have g5 := (hb8.cell (p := ⟨w.heap.size + 1 + 1, 0, none⟩) hlt4).trans d5; have g6 := (hb8.cell (p := ⟨w.heap.size + 1 + 1, 1, none⟩) hlt4).trans d6; have hbl := (hb8.block _ hlt4).trans D7.out; have g7 := (World.frozen?_of_block (a := ⟨w.heap.size + 1 + 1, 0, none⟩) hbl).trans c7; have g8 := (World.frozen?_of_block (a := ⟨w.heap.size + 1 + 1, 1, none⟩) hbl).trans c8; have HB8 := hid hb8; clear hb8 hb9 hbl c1 c2 c3 c4 c5 c6 c7 c8 d1 d2 d3 d4 d5 d6))
  go_wp2
  obtain ⟨w9, hw9⟩ : ∃ w9, w9 = (w8.setCell ⟨w.heap.size + 1 + 1, 0, none⟩ (.int .i64 ((X : Int) + (Y : Int)))).setCell ⟨w.heap.size + 1 + 1, 1, none⟩ (.slice (some ⟨b8, o8, none⟩) n8 k8) := ⟨_, rfl⟩
  have e1 : w9.cell? ⟨w.heap.size + 1 + 1, 0, none⟩ = some (.int .i64 ((X : Int) + (Y : Int))) := by
    rw [hw9, World.cell?_setCell_other _ _ _ _ (by intro h; injection h with _ h; cases h), World.cell?_setCell_same _ _ _ g5]
  have e2 : w9.cell? ⟨w.heap.size + 1 + 1, 1, none⟩ = some (.slice (some ⟨b8, o8, none⟩) n8 k8) := by
    have := (World.cell?_setCell_other w8 ⟨w.heap.size + 1 + 1, 0, none⟩ ⟨w.heap.size + 1 + 1, 1, none⟩ (.int .i64 ((X : Int) + (Y : Int))) (by intro h; injection h with _ h; cases h)).trans g6
    rw [hw9, World.cell?_setCell_same _ _ _ this]
  have hblk : ∀ k, k ≠ w.heap.size + 1 + 1 → w9.heap[k]? = w8.heap[k]? := fun k hk => by
    rw [hw9]
    exact (Below.heap_setCell _ _ _ k hk).trans (Below.heap_setCell _ _ _ k hk)
  have hsz9 : w8.heap.size = w9.heap.size := by rw [hw9]; simp
  have hfin : JoinPost (X, .slice Ax nx cx, Lx) (Y, .slice Ay ny cy, Ly) w (.returned (.agg #[.int .i64 ((X : Int) + (Y : Int)), .slice (some ⟨b8, o8, none⟩) n8 k8])) w9 := by
    have hB := HN8.out
    refine ⟨.slice (some ⟨b8, o8, none⟩) n8 k8, by simp, HL8.out.keep (Nat.le_of_eq hsz9) fun k hk => hblk k ?_, fun k hk => ?_, ?_⟩
    · injection hk with hk
      have hk : b8 = k := hk
      omega
    · injection hk with hk
      have hk : b8 = k := hk
      omega
    · have h1 : Below w.heap.size w w8 := bl_then HB4.out HB8.out
      refine ⟨?_, ?_, ?_, by rw [← hsz9]; exact h1.size, fun k hk => (hblk k (by omega)).trans (h1.block k hk)⟩
      · rw [hw9]; exact h1.os
      · rw [hw9]; exact h1.tape
      · rw [hw9]; exact h1.output
  have HF := hid hfin
  rw [← hw9]
  clear hfin hblk hw9 hS8 g5 g6 g7 g8
  refine bodyPost_ret (v := .agg #[.int .i64 ((X : Int) + (Y : Int)), .slice (some ⟨b8, o8, none⟩) n8 k8]) (by simp [results, Try.results138, go_sem, e1, e2]) rfl ?_
  exact HF.out
end Go.Proofs.Ytapjodbaaejldaa
