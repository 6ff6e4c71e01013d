
/-
The contract of tree.depths: the forest is walked.
-/
import Derived.Test.YtapjodbaaejldaaBrLeaves
import Derived.Deep.LoopGhost
import Derived.Deep.RegionLaw
import Derived.Deep.Cut
import Derived.Deep.CutRange
namespace Go.Proofs.Ytapjodbaaejldaa
open Go.RowKit

/-- What join leaves. -/
def Join2Post (X Y : Nat) (L : List Nat) (w : World) (e : Ending) (w' : World) : Prop :=
  ∃ (Z b o n c : Nat), e = .returned (.agg #[.int .i64 (Z : Int), .slice (some ⟨b, o, none⟩) n c]) ∧ Hid (Z = X + Y ∧ n = L.length ∧ w.heap.size ≤ b ∧ Leaf w' (.slice (some ⟨b, o, none⟩) n c) L) ∧ Below w.heap.size w w'
theorem join2_any {X Y nx cx ny cy : Nat} {Ax Ay : Option Addr} {Lx Ly : List Nat} {w : World} (hx : Leaf w (.slice Ax nx cx) Lx) (hy : Leaf w (.slice Ay ny cy) Ly) (wx : X ≤ 1000000) (wy : Y ≤ 1000000) (h1 : 1 ≤ Lx.length) (h2 : Lx.length + Ly.length ≤ 1000) :
    Calls Try.prog 138 #[.agg #[.int .i64 (X : Int), .slice Ax nx cx], .agg #[.int .i64 (Y : Int), .slice Ay ny cy]] w (Join2Post X Y (Lx ++ Ly) w) := by
  refine (join_any (X, .slice Ax nx cx, Lx) (Y, .slice Ay ny cy, Ly) w hx hy wx wy h1 h2).mono ?_
  rintro e w1 ⟨v, rfl, hl, hk, hb⟩
  have hl2 := hl
  obtain ⟨b, o, c, rfl, _⟩ := hl2
  exact ⟨X + Y, b, o, _, c, rfl, ⟨rfl, rfl, hk b rfl, hl⟩, hb⟩
/-- An append of one branch: to the same place, or in new memory. -/
theorem run_app_br {W : World} {b off cap n N x nv cv : Nat} {Av : Option Addr} {R : List Br} {L : List Nat} {ty : TypeId} (hq : QB W b off cap R) (hn : n = R.length) (hN : W.heap.size = N) (hlen : R.length ≤ 1000) :
    ∃ (b' off' cap' : Nat) (w' : World), (Builtin.append_ #[156, 156] ty #[.slice (some ⟨b, off, none⟩) n cap, .slice (some ⟨N, 0, none⟩) 1 1]).run Try.prog (W.alloc (.cells #[.int .i64 (x : Int), .slice Av nv cv] 160)) =
      .ok (.slice (some ⟨b', off', none⟩) (n + 1) cap') w' ∧ Hid (QB w' b' off' cap' (R ++ [(x, .slice Av nv cv, L)]) ∧ (b' = b ∨ W.heap.size ≤ b') ∧ W.grownBy w' (some b)) := by
  subst hn; subst hN
  obtain ⟨i0, hi, hz0, hz1, hz2⟩ := info_parts Try.infoBr
  have hb1 := bl_new W (.cells #[.int .i64 (x : Int), .slice Av nv cv] 160)
  have hq1 := hq.below hb1
  have hg1 : W.grownBy (W.alloc (.cells #[.int .i64 (x : Int), .slice Av nv cv] 160)) (some b) := World.grownBy_alloc W _ _
  have hnew : ∀ j u, [Value.int .i64 (x : Int), .slice Av nv cv][j]? = some u → (W.alloc (.cells #[.int .i64 (x : Int), .slice Av nv cv] 160)).cell? ((⟨W.heap.size, 0, none⟩ : Addr).add j) = some u := by
    intro j u hj
    rw [Addr.add_lit, cell_of_row _ _ _ _ _ _ (heap_alloc_new W _), Nat.zero_add]
    simpa using hj
  have hone : ∀ u ∈ [Value.int .i64 (x : Int), .slice Av nv cv], u.oneCell' = true := fun u hu => by
    rcases List.mem_cons.1 hu with rfl | hu
    · rfl
    · obtain rfl := List.mem_singleton.1 hu
      rfl
  have hl : ∀ j d, (R ++ [((x, .slice Av nv cv, L) : Br)])[j]? = some d → (j = R.length ∧ d = (x, .slice Av nv cv, L)) ∨ R[j]? = some d := fun j d hd => by
    rcases Nat.lt_or_ge j R.length with h | h
    · rw [List.getElem?_append_left h] at hd; exact .inr hd
    · rw [List.getElem?_append_right h] at hd
      have h1 : j - R.length < 1 := (List.getElem?_eq_some_iff.1 hd).1
      rw [show j - R.length = 0 by omega] at hd
      injection hd with hd
      exact .inl ⟨by omega, hd.symm⟩
  by_cases hr : R.length + 1 ≤ cap
  · have hrun := run_append_room_cells (P := Try.prog) (W.alloc (.cells #[.int .i64 (x : Int), .slice Av nv cv] 160)) 156 ty 160 i0 Try.underlying156 hi b off R.length cap ⟨W.heap.size, 0, none⟩ 1 1 [.int .i64 (x : Int), .slice Av nv cv] (by rw [hz1]; rfl) hnew hone hr
      (fun j hj => by have hj : j < 2 := hj; rw [hz1, Nat.add_assoc]; exact (hq1.room (R.length * 2 + j) (by omega)).1) (fun j hj => by have hj : j < 2 := hj; rw [hz1, Nat.add_assoc]; exact (hq1.room (R.length * 2 + j) (by omega)).2)
    rw [hz1] at hrun
    refine ⟨b, off, cap, _, hrun, ?_, .inl rfl, ?_⟩
    · refine hq1.put R.length (x, .slice Av nv cv, L) hr (by simp; omega) fun j => ?_
      by_cases e : j = R.length
      · rw [if_pos e, e, List.getElem?_append_right (Nat.le_refl _), Nat.sub_self]; rfl
      · rw [if_neg e]
        rcases Nat.lt_or_ge j R.length with h1 | h1
        · rw [List.getElem?_append_left h1]
        · rw [List.getElem?_append_right h1, List.getElem?_eq_none (l := R) h1, List.getElem?_eq_none]
          show 1 ≤ _
          omega
    · exact gset (gset hg1)
  · obtain ⟨olds, ho⟩ : ∃ olds : List Value, olds = R.flatMap brC := ⟨_, rfl⟩
    have hol : ∀ (R : List Br), (R.flatMap brC).length = R.length * 2 := by
      intro R
      induction R with
      | nil => rfl
      | cons d R ih => rw [List.flatMap_cons, List.length_append, ih, List.length_cons]; show 2 + _ = _; omega
    have hget : ∀ (R : List Br) (k : Nat) (d : Br), R[k]? = some d → (R.flatMap brC)[k * 2]? = some (.int .i64 (d.1 : Int)) ∧ (R.flatMap brC)[k * 2 + 1]? = some d.2.1 := by
      intro R
      induction R with
      | nil => intro k d h; simp at h
      | cons d0 R ih =>
        intro k d h
        rw [List.flatMap_cons]
        match k, h with
        | 0, h => injection h with h; subst h; exact ⟨rfl, rfl⟩
        | k + 1, h =>
          have := ih k d h
          have e : brC d0 = [.int .i64 (d0.1 : Int), d0.2.1] := rfl
          rw [e, show (k + 1) * 2 = k * 2 + 1 + 1 by omega]
          exact this
    have hold : ∀ j u, olds[j]? = some u → (W.alloc (.cells #[.int .i64 (x : Int), .slice Av nv cv] 160)).cell? ((⟨b, off, none⟩ : Addr).add j) = some u := by
      intro j u hj
      rw [ho] at hj
      have hj2 : j < R.length * 2 := by rw [← hol R]; exact (List.getElem?_eq_some_iff.1 hj).1
      have hk : j / 2 < R.length := by omega
      obtain ⟨h1, h2⟩ := hget R (j / 2) R[j / 2] (List.getElem?_eq_getElem hk)
      obtain ⟨h3, h4⟩ := hq1.at_ (j / 2) R[j / 2] (List.getElem?_eq_getElem hk)
      rw [Addr.add_lit]
      rcases Nat.mod_two_eq_zero_or_one j with hm | hm
      · have e : j / 2 * 2 = j := by omega
        rw [e] at h1 h3
        rw [h3, ← h1, hj]
      · have e : j / 2 * 2 + 1 = j := by omega
        rw [e] at h2
        rw [Nat.add_assoc, e] at h4
        rw [h4, ← h2, hj]
    obtain ⟨v', w', hrun, r1, r2⟩ := run_append_arg_grows (P := Try.prog) (W.alloc (.cells #[.int .i64 (x : Int), .slice Av nv cv] 160)) 156 ty 160 i0 (.agg #[.int .i64 0, .slice none 0 0]) 2 32 Try.underlying156 hi hz0 hz1 hz2 rfl (by decide) ⟨b, off, none⟩ R.length cap olds (by rw [ho, hol]) hold ⟨W.heap.size, 0, none⟩ 1 1 [.int .i64 (x : Int), .slice Av nv cv] rfl hnew (by omega) (by unfold maxLen; omega) (by omega)
    have e2 : olds ++ [.int .i64 (x : Int), .slice Av nv cv] = (R ++ [((x, .slice Av nv cv, L) : Br)]).flatMap brC := by rw [ho, List.flatMap_append]; rfl
    rw [e2] at r1
    have hcellR := fun g cap' (e : v' = .slice (some ⟨g, 0, none⟩) (R.length + 1) cap') (k : Nat) (hk : k < ((R ++ [((x, .slice Av nv cv, L) : Br)]).flatMap brC).length) => World.ownsRow.cellAt (e ▸ r1) k (by have h := hk; rw [hol] at h; simp at h; omega)
    rcases r1.2 with ⟨_, e0⟩ | ⟨g, cap', cur, rfl, k1, k2, k3, k4, k5, k6⟩
    · omega
    · refine ⟨g, 0, cap', w', hrun, ⟨?_, by simpa using k3, fun k d hd => ?_, fun j hj => ?_⟩, .inr (Nat.le_trans hb1.size k1), ?_⟩
      · exact (Array.getElem?_eq_some_iff.1 k2).1
      · obtain ⟨h1, h2⟩ := hget _ k d hd
        have hk1 := (List.getElem?_eq_some_iff.1 h2).1
        rw [Nat.zero_add, hcellR g cap' rfl (k * 2) (by omega), hcellR g cap' rfl (k * 2 + 1) hk1]
        exact ⟨by rw [← h1, List.getElem?_eq_getElem (by omega)], by rw [← h2, List.getElem?_eq_getElem hk1]⟩
      · have hrow : w'.rowIs g 160 (cap' * 2) (fun j => cur[j]?.getD default) := ⟨cur, k2, k5, fun j hj => by
          show cur[j]? = some (cur[j]?.getD default)
          rw [Array.getElem?_eq_getElem (by omega)]; rfl⟩
        rw [Nat.zero_add]
        exact ⟨by rw [hrow.cell hj]; rfl, hrow.frozen j⟩
      · exact ⟨r2.os.trans hg1.os, r2.tape.trans hg1.tape, r2.output.trans hg1.output, Nat.le_trans hg1.size r2.size, fun k hk hne => (r2.block k (Nat.lt_of_lt_of_le hk hb1.size) (by simp)).trans (hg1.block k hk hne)⟩
/-- The same inside a statement whose order is drawn. -/
theorem step_app_br {ops : Array Oper} {o : Oper} {a : Act} {K : Act → World → Prop} {Q : Exit → Act → World → Prop} {E : Prop} {W : World} {b off cap n N x nv cv : Nat} {Av : Option Addr} {R : List Br} (L : List Nat) (hgd : o.guard = none) (s z : Operand)
    (ho : o.op = .call { callee := .builtin .append, args := #[s, z], argTypes := #[156, 156] })
    (hs : a.eval s = .slice (some ⟨b, off, none⟩) n cap) (hx : a.eval z = .slice (some ⟨N, 0, none⟩) 1 1)
    (hq : QB W b off cap R) (hn : n = R.length) (hN : W.heap.size = N) (hlen : R.length ≤ 1000)
    (h : ∀ b' off' cap' w', Hid (QB w' b' off' cap' (R ++ [(x, .slice Av nv cv, L)]) ∧ (b' = b ∨ W.heap.size ≤ b') ∧ W.grownBy w' (some b)) → K (a.put o.dst (.slice (some ⟨b', off', none⟩) (n + 1) cap')) w') :
    if Region.wanted o (yielded ops a.tmps) = true then Oper.wp Try.prog o a (W.alloc (.cells #[.int .i64 (x : Int), .slice Av nv cv] 160)) K Q else E := by
  have hw : Region.wanted o (yielded ops a.tmps) = true := by simp [Region.wanted, hgd]
  rw [if_pos hw]
  obtain ⟨b', off', cap', w', hrun, hh⟩ := run_app_br (x := x) (nv := nv) (cv := cv) (Av := Av) (L := L) (ty := o.type) hq hn hN hlen
  unfold Oper.wp
  simp [execOp, ho, resolve, invoke, builtin, hs, hx, hrun, Result.andThen]
  exact h b' off' cap' w' hh
/-- What stands at the head of the loop. -/
structure DAt (wt : Nat → Nat) (n B0 B1 bb off cap : Nat) (D : List Br) (l : Nat → Nat) (w0 w : World) : Prop where
  q : QB w bb off cap D
  lv : LvOk B1 bb w D
  way : Hm.Way wt n (D.map nd) l
  row : w.rowIs B0 3 n (fun j => .int .i64 ((l j : Nat) : Int))
  lo : B1 ≤ bb
  b01 : B0 < B1
  below : Below B0 w0 w
/-- What stands when the branches are in order, the first two x and y. -/
structure SAt (wt : Nat → Nat) (n B0 B1 bb off cap : Nat) (D : List Br) (x y : Br) (R : List Br) (l : Nat → Nat) (w0 w : World) : Prop where
  q : QB w bb off cap (x :: y :: R)
  lv : LvOk B1 bb w (x :: y :: R)
  way : Hm.Way wt n (D.map nd) l
  ord : Hm.isort (D.map nd) = nd x :: nd y :: R.map nd
  row : w.rowIs B0 3 n (fun j => .int .i64 ((l j : Nat) : Int))
  lo : B1 ≤ bb
  b01 : B0 < B1
  below : Below B0 w0 w
theorem DAt.ok {wt : Nat → Nat} {n B0 B1 bb off cap : Nat} {D : List Br} {l : Nat → Nat} {w0 w : World} (h : DAt wt n B0 B1 bb off cap D l w0 w) (hw : ∀ k, k < n → wt k ≤ 10000) (hn : n ≤ 12) : (∀ d ∈ D, BrOk d) ∧ D.length ≤ 12 := by
  have hl := h.way.2.1
  rw [List.length_map] at hl
  refine ⟨h.lv.ok fun d hd => ?_, by omega⟩
  have := h.way.1.wt hw (t := nd d) (List.mem_map_of_mem hd)
  have e : (nd d).1 = d.1 := rfl
  rw [e] at this
  omega
theorem DAt.sorted {wt : Nat → Nat} {n B0 B1 bb off cap : Nat} {D : List Br} {l : Nat → Nat} {w0 w w' : World} (h : DAt wt n B0 B1 bb off cap D l w0 w) (hs : SS w bb off cap (Hm.isort D) w') (h2 : 2 ≤ D.length) (hB : B0 < w.heap.size) :
    ∃ x y R, R.length + 2 = D.length ∧ SAt wt n B0 B1 bb off cap D x y R l w0 w' := by
  have hlen := Hm.isort_len D
  have hp := Hm.isort_perm D
  have hmap := Hm.isort_map (f := nd) (fun _ => rfl) D
  have hlo := h.lo
  have h01 := h.b01
  match hi : Hm.isort D with
  | [] => rw [hi] at hlen; simp at hlen; omega
  | [_] => rw [hi] at hlen; simp at hlen; omega
  | x :: y :: R =>
    rw [hi] at hlen hp hmap hs
    refine ⟨x, y, R, by simpa using hlen, hs.1, fun d hd => ?_, h.way, hmap.symm, h.row.of_block (hs.2.block B0 hB (by intro e; injection e with e; omega)), h.lo, h.b01, ?_⟩
    · exact h.lv.grown hs.2 d (hp.mem_iff.1 hd)
    · exact h.below.grown hs.2 (by omega) fun k hk => by injection hk with hk; omega
theorem SAt.small {wt : Nat → Nat} {n B0 B1 bb off cap : Nat} {D : List Br} {x y : Br} {R : List Br} {l : Nat → Nat} {w0 w : World} (h : SAt wt n B0 B1 bb off cap D x y R l w0 w) (hw : ∀ k, k < n → wt k ≤ 10000) (hn : n ≤ 12) : x.1 ≤ 1000000 ∧ y.1 ≤ 1000000 ∧ 1 ≤ x.2.2.length ∧ x.2.2.length + y.2.2.length ≤ 1000 := by
  have hp := Hm.isort_perm (D.map nd)
  rw [h.ord] at hp
  have hx : nd x ∈ D.map nd := hp.mem_iff.1 List.mem_cons_self
  have hy : nd y ∈ D.map nd := hp.mem_iff.1 (List.mem_cons_of_mem _ List.mem_cons_self)
  have a1 := h.way.1.wt hw hx
  have a2 := h.way.1.wt hw hy
  have b1 := h.way.1.leaf hx
  have b2 := h.way.1.leaf hy
  have e1 : (nd x).1 = x.1 := rfl
  have e2 : (nd y).1 = y.1 := rfl
  have e3 : (nd x).2 = x.2.2 := rfl
  have e4 : (nd y).2 = y.2.2 := rfl
  rw [e1] at a1
  rw [e2] at a2
  rw [e3] at b1
  rw [e4] at b2
  omega
/-- The leaves of the first two: unlike, each below n and less than n deep. -/
theorem SAt.leaves {wt : Nat → Nat} {n B0 B1 bb off cap : Nat} {D : List Br} {x y : Br} {R : List Br} {l : Nat → Nat} {w0 w : World} (h : SAt wt n B0 B1 bb off cap D x y R l w0 w) (hn : n ≤ 12) : (x.2.2 ++ y.2.2).Nodup ∧ (∀ i ∈ x.2.2 ++ y.2.2, i < n ∧ l i ≤ 12) ∧ (x.2.2 ++ y.2.2).length ≤ 12 := by
  have hnx := h.way.1.next h.ord
  have hm : ((nd x).1 + (nd y).1, (nd x).2 ++ (nd y).2) ∈ R.map nd ++ [((nd x).1 + (nd y).1, (nd x).2 ++ (nd y).2)] := List.mem_append_right _ (List.mem_singleton.2 rfl)
  obtain ⟨h1, h2, h3, _⟩ := hnx.leaf hm
  refine ⟨h1, fun i hi => ⟨h2 i hi, ?_⟩, Nat.le_trans h3 hn⟩
  have := h.way.1.dep (h2 i hi)
  omega
end Go.Proofs.Ytapjodbaaejldaa
