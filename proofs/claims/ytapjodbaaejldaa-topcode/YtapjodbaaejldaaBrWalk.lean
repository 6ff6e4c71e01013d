
/-
The contract of tree.depths: the walk.
-/
import Derived.Test.YtapjodbaaejldaaBrDepth
namespace Go.Proofs.Ytapjodbaaejldaa
open Go.RowKit

/-- Behind 'both := join(..)'. -/
def BothAt (X Y : Nat) (L : List Nat) (N Z b8 o8 n8 k8 : Nat) (w w' : World) : Prop :=
  w'.cell? ⟨N, 0, none⟩ = some (.int .i64 (Z : Int)) ∧ w'.cell? ⟨N, 1, none⟩ = some (.slice (some ⟨b8, o8, none⟩) n8 k8) ∧ Z = X + Y ∧ n8 = L.length ∧ w.heap.size ≤ b8 ∧ w.heap.size ≤ N ∧ N < w'.heap.size ∧ Leaf w' (.slice (some ⟨b8, o8, none⟩) n8 k8) L ∧ Below w.heap.size w w'
theorem bset2 {w w' : World} {N : Nat} {u v : Value} (h : Below N w w') : Below N w ((w'.setCell ⟨N, 0, none⟩ u).setCell ⟨N, 1, none⟩ v) :=
  ⟨h.os, h.tape, h.output, by simpa using h.size, fun k hk => ((Below.heap_setCell _ _ _ k (by show k ≠ N; omega)).trans (Below.heap_setCell _ _ _ k (by show k ≠ N; omega))).trans (h.block k hk)⟩
theorem new2 {w w' : World} {u v : Value} {t : TypeId} (hb : Below (w.alloc (.cells #[u, v] t)).drew.heap.size (w.alloc (.cells #[u, v] t)).drew w') :
    w'.cell? ⟨w.heap.size, 0, none⟩ = some u ∧ w'.cell? ⟨w.heap.size, 1, none⟩ = some v ∧ w'.frozen? ⟨w.heap.size, 0, none⟩ = false ∧ w'.frozen? ⟨w.heap.size, 1, none⟩ = false := by
  have hlt : w.heap.size < (w.alloc (.cells #[u, v] t)).drew.heap.size := by simp
  have e : w'.heap[w.heap.size]? = (w.alloc (.cells #[u, v] t)).heap[w.heap.size]? := hb.block _ hlt
  refine ⟨?_, ?_, ?_, ?_⟩
  · rw [World.cell?_of_block (w := w.alloc (.cells #[u, v] t)) (a := ⟨w.heap.size, 0, none⟩) e, cell_of_row _ _ _ _ _ _ (heap_alloc_new _ _)]; rfl
  · rw [World.cell?_of_block (w := w.alloc (.cells #[u, v] t)) (a := ⟨w.heap.size, 1, none⟩) e, cell_of_row _ _ _ _ _ _ (heap_alloc_new _ _)]; rfl
  · rw [World.frozen?_of_block (w := w.alloc (.cells #[u, v] t)) (a := ⟨w.heap.size, 0, none⟩) e, World.frozen?_alloc_at _ _ _ _ rfl]
  · rw [World.frozen?_of_block (w := w.alloc (.cells #[u, v] t)) (a := ⟨w.heap.size, 1, none⟩) e, World.frozen?_alloc_at _ _ _ _ rfl]
theorem both_a {X Y Z b8 o8 n8 k8 : Nat} {L : List Nat} {w2 w8 : World} {t : TypeId} (hb : Below w2.heap.size w2 w8) (h : Hid (Z = X + Y ∧ n8 = L.length ∧ w2.drew.heap.size ≤ b8 ∧ Leaf w8 (.slice (some ⟨b8, o8, none⟩) n8 k8) L)) :
    BothAt X Y L w8.heap.size Z b8 o8 n8 k8 w2 (w8.alloc (.cells #[.int .i64 (Z : Int), .slice (some ⟨b8, o8, none⟩) n8 k8] t)) := by
  obtain ⟨h1, h2, h3, h4⟩ := h.out
  have hb1 := bl_new w8 (.cells #[.int .i64 (Z : Int), .slice (some ⟨b8, o8, none⟩) n8 k8] t)
  refine ⟨?_, ?_, h1, h2, h3, hb.size, by simp, h4.below hb1, bl_then hb hb1⟩
  · rw [cell_of_row _ _ _ _ _ _ (heap_alloc_new _ _)]; rfl
  · rw [cell_of_row _ _ _ _ _ _ (heap_alloc_new _ _)]; rfl
theorem both_b {X Y Z b8 o8 n8 k8 : Nat} {L : List Nat} {w2 w8 : World} {o : Obj} {u v : Value} (hb : Below w2.heap.size w2 w8) (hsz : (w2.alloc o).drew.heap.size ≤ w8.heap.size) (h : Hid (Z = X + Y ∧ n8 = L.length ∧ (w2.alloc o).drew.heap.size ≤ b8 ∧ Leaf w8 (.slice (some ⟨b8, o8, none⟩) n8 k8) L)) (g5 : w8.cell? ⟨w2.heap.size, 0, none⟩ = some u) (g6 : w8.cell? ⟨w2.heap.size, 1, none⟩ = some v) :
    BothAt X Y L w2.heap.size Z b8 o8 n8 k8 w2 ((w8.setCell ⟨w2.heap.size, 0, none⟩ (.int .i64 (Z : Int))).setCell ⟨w2.heap.size, 1, none⟩ (.slice (some ⟨b8, o8, none⟩) n8 k8)) := by
  obtain ⟨h1, h2, h3, h4⟩ := h.out
  have e : (w2.alloc o).drew.heap.size = w2.heap.size + 1 := by simp
  rw [e] at h3 hsz
  have e6 : (w8.setCell ⟨w2.heap.size, 0, none⟩ (.int .i64 (Z : Int))).cell? ⟨w2.heap.size, 1, none⟩ = some v := (World.cell?_setCell_other _ _ _ _ (by intro h; injection h with _ h; cases h)).trans g6
  refine ⟨?_, ?_, h1, h2, by omega, Nat.le_refl _, by simp; omega, h4.keep (by simp) fun k hk => ?_, bset2 hb⟩
  · rw [World.cell?_setCell_other _ _ _ _ (by intro h; injection h with _ h; cases h), World.cell?_setCell_same _ _ _ g5]
  · rw [World.cell?_setCell_same _ _ _ e6]
  · injection hk with hk
    have hk : b8 = k := hk
    exact (Below.heap_setCell _ _ _ k (by show k ≠ w2.heap.size; omega)).trans (Below.heap_setCell _ _ _ k (by show k ≠ w2.heap.size; omega))
/-- The leaves of the two are let down, k of them so far. -/
def InAt (n B0 : Nat) (L : List Nat) (l : Nat → Nat) (k : Nat) (wc wr : World) : Prop :=
  wr.rowIs B0 3 n (fun j => .int .i64 ((Hm.deep (L.take k) l j : Nat) : Int)) ∧ wc.grownBy wr (some B0)
theorem InAt.start {n B0 : Nat} {L : List Nat} {l : Nat → Nat} {w2 wc : World} (hr : w2.rowIs B0 3 n (fun j => .int .i64 ((l j : Nat) : Int))) (hb : Below w2.heap.size w2 wc) : InAt n B0 L l 0 wc wc :=
  ⟨(hr.of_block (hb.block B0 hr.lt)).congr fun j _ => by rw [List.take_zero, Hm.deep_out (by simp)], World.grownBy.refl _ _⟩
theorem InAt.next {n B0 k : Nat} {L : List Nat} {l : Nat → Nat} {wc wr : World} {i v : Nat} (h : InAt n B0 L l k wc wr) (hL : L.Nodup) (hk : L[k]? = some i) (hi : i < n) (hv : v = l i + 1) :
    wr.cell? ⟨B0, i, none⟩ = some (.int .i64 ((l i : Nat) : Int)) ∧ wr.frozen? ⟨B0, i, none⟩ = false ∧ InAt n B0 L l (k + 1) wc (wr.setCell ⟨B0, i, none⟩ (.int .i64 (v : Int))) := by
  obtain ⟨hr, hg⟩ := h
  have htk : L.take (k + 1) = L.take k ++ [i] := by rw [List.take_add_one, hk]; rfl
  have hnot : i ∉ L.take k := by
    have : (L.take (k + 1)).Nodup := hL.sublist (List.take_sublist _ _)
    rw [htk] at this
    intro hm
    exact (List.nodup_append.1 this).2.2 i hm i (List.mem_singleton.2 rfl) rfl
  refine ⟨?_, hr.frozen i, (hr.set i (.int .i64 (v : Int))).congr fun j hj => ?_, gset hg⟩
  · have := hr.cell hi
    rwa [Hm.deep_out hnot] at this
  · by_cases e : j = i
    · rw [if_pos e, e, Hm.deep_in (by rw [htk]; exact List.mem_append_right _ (List.mem_singleton.2 rfl)), hv]
    · rw [if_neg e]
      by_cases hm : j ∈ L.take k
      · rw [Hm.deep_in hm, Hm.deep_in (by rw [htk]; exact List.mem_append_left _ hm)]
      · rw [Hm.deep_out hm, Hm.deep_out (by rw [htk]; intro h; rcases List.mem_append.1 h with h | h; exact hm h; exact e (List.mem_singleton.1 h))]
theorem InAt.drew {n B0 k : Nat} {L : List Nat} {l : Nat → Nat} {wc wr : World} (h : InAt n B0 L l k wc wr) : InAt n B0 L l k wc wr.drew := ⟨h.1.drew, ⟨h.2.os, h.2.tape, h.2.output, h.2.size, h.2.block⟩⟩
/-- The round's end. -/
theorem SAt.next {wt : Nat → Nat} {n B0 B1 bb off cap : Nat} {D : List Br} {x y : Br} {R : List Br} {l : Nat → Nat} {w0 w2 wc wr w' : World} {N Z b8 o8 n8 k8 b' off' cap' : Nat}
    (h : SAt wt n B0 B1 bb off cap D x y R l w0 w2) (hB : BothAt x.1 y.1 (x.2.2 ++ y.2.2) N Z b8 o8 n8 k8 w2 wc) (hI : InAt n B0 (x.2.2 ++ y.2.2) l (x.2.2 ++ y.2.2).length wc wr)
    (hq : QB w' b' off' cap' (R ++ [(Z, .slice (some ⟨b8, o8, none⟩) n8 k8, x.2.2 ++ y.2.2)])) (hb' : b' = bb ∨ wr.heap.size ≤ b') (hg : wr.grownBy w' (some bb)) :
    DAt wt n B0 B1 b' off' cap' (R ++ [(Z, .slice (some ⟨b8, o8, none⟩) n8 k8, x.2.2 ++ y.2.2)]) (Hm.deep (x.2.2 ++ y.2.2) l) w0 w' := by
  obtain ⟨_, _, hZ, _, hb8, _, _, hlf, hbw⟩ := hB
  obtain ⟨hr, hgi⟩ := hI
  rw [List.take_length] at hr
  have hlo := h.lo
  have h01 := h.b01
  have hbb := h.q.lt
  have s1 := hbw.size
  have s2 := hgi.size
  have hlf' := hlf
  obtain ⟨b9, o9, c9, e9, _, hlt9, _⟩ := hlf'
  injection e9 with e9
  injection e9 with e9
  injection e9 with e9
  subst e9
  refine ⟨hq, fun d hd => ?_, ?_, hr.of_block (hg.block B0 hr.lt (by intro e; injection e with e; omega)), ?_, h.b01, ?_⟩
  · rcases List.mem_append.1 hd with hd | hd
    · obtain ⟨hl, hk⟩ := h.lv d (List.mem_cons_of_mem _ (List.mem_cons_of_mem _ hd))
      have hl1 := ((hl.below hbw).grown hgi (by intro e; have := (hk _ e).1; omega)).grown hg fun e => (hk _ e).2 rfl
      refine ⟨hl1, fun k e => ⟨(hk k e).1, ?_⟩⟩
      have a1 := (hk k e).2
      have a2 := hl.lt k e
      omega
    · obtain rfl := List.mem_singleton.1 hd
      refine ⟨(hlf.grown hgi (by intro e; injection e with e; have e : b8 = B0 := e; omega)).grown hg (by intro e; injection e with e; have e : b8 = bb := e; omega), fun k e => ?_⟩
      injection e with e
      have e : b8 = k := e
      omega
  · have := h.way.next h.ord
    rw [List.map_append]
    rw [hZ]
    exact this
  · omega
  · have hb1 : Below B0 w0 wc := h.below.trans (hbw.mono (by omega))
    have hb2 : Below B0 w0 wr := hb1.grown hgi (by omega) fun k e => by injection e with e; omega
    exact hb2.grown hg (by omega) fun k e => by injection e with e; omega
def DepthPost (n : Nat) (g : Nat → Int) (w : World) (e : Ending) (w' : World) : Prop := ∃ A c, e = .returned (.slice A n c) ∧ n ≤ c ∧ IRow w' A n g ∧ Below w.heap.size w w'
set_option maxRecDepth 100000 in
set_option maxHeartbeats 2000000 in
theorem depths_any {A : Option Addr} {n c : Nat} {gw : Nat → Int} {wt : Nat → Nat} (w : World) (h : IRow w A n gw) (hg : ∀ k, k < n → gw k = ((wt k : Nat) : Int)) (hw : ∀ k, k < n → wt k ≤ 10000) (hn : n ≤ 12) :
    Calls Try.prog 109 #[.slice A n c] w (DepthPost n (fun k => ((Hm.hdep wt n k : Nat) : Int)) w) := by
  have hmk := run_make_row' (P := Try.prog) 53 3 (.int .i64 0) 8 Try.underlying53 Try.infoInt rfl .i64 .i64 n (by omega) (by omega) w
  have hmade := World.rowIs_made w (.int .i64 0) n 3
  have hb0 := bl_new w (.cells (madeCells #[.int .i64 0] n) 3)
  have hL := leaves_any (c := c) _ (h.keep hb0) hg hn
  generalize w.alloc (.cells (madeCells #[.int .i64 0] n) 3) = w0 at hmk hmade hb0 hL
  have HW := hid hw
  clear h hg hw
  go_enter Try.func109, Try.ntmps109
  go_wp2_with fail
  with_reducible refine hL.mono ?_
  rintro e w1 ⟨D0, rfl, hD0, hq0, hl0, hb1⟩
  have hr1 : w1.rowIs w.heap.size 3 n (fun _ => .int .i64 ((0 : Nat) : Int)) := hmade.of_block (hb1.block _ hmade.lt)
  have hlen0 : D0.length = n := by
    have := congrArg List.length hD0
    rwa [List.length_map, Hm.hstart_len] at this
  have H1 : Hid (DAt wt n w.heap.size w0.heap.size w0.heap.size 0 n D0 (fun _ => 0) w w1) :=
    ⟨hq0, hl0, by rw [hD0]; exact Hm.Way.start wt n, hr1, Nat.le_refl _, hmade.lt, bl_then hb0 hb1⟩
  have HB0 := hid hmade.lt
  have HL0 := hid hlen0
  clear hL hmk hmade hb0 hD0 hq0 hl0 hb1 hr1 hlen0
  generalize w0.heap.size = B1 at H1 HB0
  go_wp2
  go_loopg [4] n (fun g x wr => ∃ (bb off cap : Nat) (D : List Br) (l : Nat → Nat), x = .slice (some ⟨bb, off, none⟩) g cap ∧ Hid (g = D.length) ∧ Hid (DAt wt n w.heap.size B1 bb off cap D l w wr))
  case atStart => exact ⟨B1, 0, n, D0, fun _ => 0, rfl, HL0.out.symm, H1⟩
  case round =>
    clear H1 HL0
    obtain ⟨bb, off, cap, D, l, rfl, HG, HD⟩ := hrel
    obtain ⟨hOk, hD12⟩ := HD.out.ok HW.out hn
    rw [← HG.out] at hD12
    by_cases h2 : 2 ≤ gk
    · have h2' : (1 : Int) < (gk : Int) := by omega
      have hS := sortB_any bb off cap gk D wr hOk HD.out.q HG.out.symm (by omega)
      have HO := hid hOk
      clear hOk
      go_wp2_with fail
      with_reducible refine hS.mono ?_
      rintro e w2 ⟨rfl, hs2⟩
      have hB0r : w.heap.size < wr.heap.size := by have := HD.out.row.lt; exact this
      obtain ⟨x, y, R, hR, hSA⟩ := HD.out.sorted hs2 (by rw [← HG.out]; exact h2) hB0r
      rw [← HG.out] at hR
      have HS := hid hSA
      have HR := hid hR
      clear hS hs2 HD HO hSA hB0r
      obtain ⟨X, xv, Lx⟩ := x
      obtain ⟨Y, yv, Ly⟩ := y
      have hxl : Leaf w2 xv Lx := (HS.out.lv (X, xv, Lx) List.mem_cons_self).1
      have hyl : Leaf w2 yv Ly := (HS.out.lv (Y, yv, Ly) (List.mem_cons_of_mem _ List.mem_cons_self)).1
      have hxs : ∃ A n c, xv = .slice A n c := by obtain ⟨b, o, c, h, _⟩ := hxl; exact ⟨_, _, _, h⟩
      have hys : ∃ A n c, yv = .slice A n c := by obtain ⟨b, o, c, h, _⟩ := hyl; exact ⟨_, _, _, h⟩
      obtain ⟨Ax, nx, cx, rfl⟩ := hxs
      obtain ⟨Ay, ny, cy, rfl⟩ := hys
      obtain ⟨hX, hY, hx1, hxy⟩ := HS.out.small HW.out hn
      have HC : Hid (∀ W, Below w2.heap.size w2 W → Calls Try.prog 138 #[.agg #[.int .i64 (X : Int), .slice Ax nx cx], .agg #[.int .i64 (Y : Int), .slice Ay ny cy]] W (Join2Post X Y (Lx ++ Ly) W)) :=
        fun W hW => join2_any (hxl.below hW) (hyl.below hW) hX hY hx1 hxy
      have c1 : w2.cell? ⟨bb, off, none⟩ = some (.int .i64 (X : Int)) := by have := (HS.out.q.at_ 0 _ rfl).1; rwa [Nat.zero_mul, Nat.add_zero] at this
      have c2 : w2.cell? ⟨bb, off + 1, none⟩ = some (.slice Ax nx cx) := by have := (HS.out.q.at_ 0 _ rfl).2; rwa [Nat.zero_mul, Nat.add_zero] at this
      have c3 : w2.cell? ⟨bb, off + 2, none⟩ = some (.int .i64 (Y : Int)) := by have := (HS.out.q.at_ 1 _ rfl).1; rwa [Nat.one_mul] at this
      have c4 : w2.cell? ⟨bb, off + 2 + 1, none⟩ = some (.slice Ay ny cy) := by have := (HS.out.q.at_ 1 _ rfl).2; rwa [Nat.one_mul] at this
      have hbb := HS.out.q.lt
      have h0D : (0 : Int) < (gk : Int) := by omega
      have h0N : 0 < gk := by omega
      clear hxl hyl hX hY hx1 hxy
      go_wp2_with fail
      go_cut [5] from 13 to 43 (fun p wx => ∃ N Z b8 o8 n8 k8 : Nat, p = .pointer (some ⟨N, 0, none⟩) ∧ Hid (BothAt X Y (Lx ++ Ly) N Z b8 o8 n8 k8 w2 wx))
      case first =>
        have KC : ∀ W, Below w2.heap.size w2 W → W.cell? ⟨bb, off, none⟩ = some (.int .i64 (X : Int)) ∧ W.cell? ⟨bb, off + 1, none⟩ = some (.slice Ax nx cx) ∧ W.cell? ⟨bb, off + 2, none⟩ = some (.int .i64 (Y : Int)) ∧ W.cell? ⟨bb, off + 2 + 1, none⟩ = some (.slice Ay ny cy) := fun W hW =>
          ⟨(hW.cell (p := ⟨bb, off, none⟩) hbb).trans c1, (hW.cell (p := ⟨bb, off + 1, none⟩) hbb).trans c2, (hW.cell (p := ⟨bb, off + 2, none⟩) hbb).trans c3, (hW.cell (p := ⟨bb, off + 2 + 1, none⟩) hbb).trans c4⟩
        have hDr : Below w2.heap.size w2 w2.drew := bl_drewN (Below.refl _ _) 1
        have hA : ∀ o, Below w2.heap.size w2 (w2.alloc o).drew := fun o => bl_drewN (bl_new w2 o) 1
        go_region_held3 (fun W => W.cell? ⟨bb, off, none⟩ = some (.int .i64 (X : Int)) ∧ W.cell? ⟨bb, off + 1, none⟩ = some (.slice Ax nx cx) ∧ W.cell? ⟨bb, off + 2, none⟩ = some (.int .i64 (Y : Int)) ∧ W.cell? ⟨bb, off + 2 + 1, none⟩ = some (.slice Ay ny cy)) (first | exact ⟨c1, c2, c3, c4⟩ | exact KC _ (hA _) | exact KC _ hb9 | exact KC _ (bl_then hb9 (bl_new _ _)) | exact KC _ (bset2 hb9) | (trace_state; fail)) (first | (go_at_call 138; (with_reducible refine (HC.out _ hDr).mono ?_); rintro e w8 ⟨Z, b8, o8, n8, k8, rfl, H8, hb8⟩; have hb9 : Below w2.heap.size w2 w8 := bl_then hDr hb8) | (go_at_call 138; (with_reducible refine (HC.out _ (hA _)).mono ?_); rintro e w8 ⟨Z, b8, o8, n8, k8, rfl, H8, hb8⟩; have hb9 : Below w2.heap.size w2 w8 := bl_then (hA _) hb8; obtain ⟨g5, g6, g7, g8⟩ := new2 hb8))
        all_goals (go_wp2_with fail)
        all_goals go_meet
        all_goals first | exact ⟨_, Z, b8, o8, n8, k8, rfl, both_a hb9 H8⟩ | exact ⟨_, Z, b8, o8, n8, k8, rfl, both_b hb9 hb8.size H8 g5 g6⟩
      case rest =>
        obtain ⟨N, Z, b8, o8, n8, k8, rfl, HBo⟩ := hcut
        obtain ⟨q1, q2, -, hn8, -, -, -, hlf, -⟩ := HBo.out
        have HN8 := hid hn8
        have HI0 := hid (InAt.start (L := Lx ++ Ly) HS.out.row HBo.out.2.2.2.2.2.2.2.2)
        have hNB : N ≠ w.heap.size := by
          have a1 := HBo.out.2.2.2.2.2.1
          have a2 := HS.out.lo
          have a3 := HS.out.b01
          omega
        have hbB : b8 ≠ w.heap.size := by
          have a1 := HBo.out.2.2.2.2.1
          have a2 := HS.out.lo
          have a3 := HS.out.b01
          omega
        have HLf := hid hlf
        have HLO := hid (HS.out.leaves hn)
        have hn12 : n8 ≤ 12 := by rw [hn8]; exact HLO.out.2.2
        clear c1 c2 c3 c4 hn8 hlf HC
        go_wp2
        go_loopw [28] (fun y wr => ∃ k : Nat, k ≤ n8 ∧ y = .int .i64 (k : Int) ∧ Hid (InAt n w.heap.size (Lx ++ Ly) l k wc wr)) (fun y _ => n8 - (intOf y).toNat)
        case atStart => exact ⟨0, by omega, rfl, HI0⟩
        case round =>
          clear HI0
          obtain ⟨k, hk, rfl, HI⟩ := hrel
          by_cases hkl : k < n8
          · have hkl' : (k : Int) < (n8 : Int) := by omega
            obtain ⟨i, hi⟩ : ∃ i, (Lx ++ Ly)[k]? = some i := ⟨_, List.getElem?_eq_getElem (by rw [← HN8.out]; exact hkl)⟩
            obtain ⟨hin, hil⟩ := HLO.out.2.1 i (List.mem_of_getElem? hi)
            obtain ⟨r1, r2, hnx⟩ := HI.out.next (v := l i + 1) HLO.out.1 hi hin rfl
            have hlr : wr.cell? ⟨b8, o8 + k, none⟩ = some (.int .i64 (i : Int)) := by
              obtain ⟨b9, o9, c9, e9, _, hlt9, hc9⟩ := HLf.out
              injection e9 with e9
              injection e9 with e9
              injection e9 with e9 e10
              subst e9; subst e10
              have := hc9 k i hi
              rwa [← World.cell?_of_block (w' := wr) (a := ⟨b8, o8 + k, none⟩) (HI.out.2.block b8 hlt9 (by intro e; injection e with e; exact hbB e))] at this
            have HNX := hid hnx
            have hin' : (i : Int) < (n : Int) := by omega
            have hi0 : (0 : Int) ≤ (i : Int) := by omega
            clear hnx hi HI
            generalize l i = li at r1 hil HNX
            go_wp2
            go_roundw
            case measure => simp [intOf]; omega
            case rel => exact ⟨k + 1, by omega, by go_num, HNX⟩
          · have hdk : decide ((k : Int) < (n8 : Int)) = false := decide_eq_false (by omega)
            obtain rfl : n8 = k := by omega
            have q3 : wr.cell? ⟨N, 0, none⟩ = some (.int .i64 (Z : Int)) := by
              rw [← q1]
              exact World.cell?_of_block (a := ⟨N, 0, none⟩) (HI.out.2.block N HBo.out.2.2.2.2.2.2.1 (by intro e; injection e with e; exact hNB e))
            have q4 : wr.cell? ⟨N, 1, none⟩ = some (.slice (some ⟨b8, o8, none⟩) n8 k8) := by
              rw [← q2]
              exact World.cell?_of_block (a := ⟨N, 1, none⟩) (HI.out.2.block N HBo.out.2.2.2.2.2.2.1 (by intro e; injection e with e; exact hNB e))
            have hqb : QB wr bb off cap ((X, .slice Ax nx cx, Lx) :: (Y, .slice Ay ny cy, Ly) :: R) :=
              (HS.out.q.below HBo.out.2.2.2.2.2.2.2.2).keep HI.out.2.size (HI.out.2.block bb (Nat.lt_of_lt_of_le hbb HBo.out.2.2.2.2.2.2.2.2.size) (by
                have a2 := HS.out.lo
                have a3 := HS.out.b01
                intro e; injection e with e; omega))
            have hcap := hqb.le
            have hqt := hqb.tail
            obtain ⟨o2, ho2, hq2⟩ : ∃ o2, (if cap = 2 then some (⟨bb, off, none⟩ : Addr) else some ⟨bb, off + 4, none⟩) = some ⟨bb, o2, none⟩ ∧ QB wr bb o2 (cap - 2) R := by
              by_cases h : cap = 2
              · rw [if_pos h] at hqt; exact ⟨off, by rw [if_pos h], hqt⟩
              · rw [if_neg h] at hqt; exact ⟨off + 4, by rw [if_neg h], hqt⟩
            have hg2 : gk - 2 = R.length := by have := HR.out; omega
            have hcg : gk ≤ cap := by have := HR.out; simp at hcap; omega
            have HQ2 := hid hq2
            have HQR := hid hg2
            clear hqb hcap hqt q1 q2 hq2 hg2
            have h2g : (2 : Int) ≤ (gk : Int) := by omega
            have hR1000 : R.length ≤ 1000 := by have := HR.out; omega
            go_wp2_with fail
            go_region_law (refine step_app_br (W := wr.drew) (Lx ++ Ly) rfl _ _ rfl (by simp [Act.eval]) (by simp [Act.eval]) (HQ2.out.drewN 1) HQR.out rfl hR1000 ?_; intro b' o' c' w' HAP)
            have HD2 := hid (HS.out.next HBo.out (by rw [← HN8.out]; exact HI.out.drew) HAP.out.1 HAP.out.2.1 HAP.out.2.2)
            go_wp2
            go_roundg (gk - 2 + 1)
            case measure => omega
            case rel => exact ⟨b', o', c', _, _, rfl, by rw [List.length_append, HQR.out]; rfl, HD2⟩
    · have hd2 : decide ((1 : Int) < (gk : Int)) = false := decide_eq_false (by omega)
      go_wp2
      go_ret
      have hD := HD.out
      refine ⟨some ⟨w.heap.size, 0, none⟩, n, rfl, Nat.le_refl _, fun k hk => ⟨w.heap.size, 0, rfl, hD.row.lt, ?_⟩, hD.below⟩
      have hl := hD.way.fin (by rw [List.length_map, ← HG.out]; omega)
      rw [Nat.zero_add, hD.row.cell hk, hl]
end Go.Proofs.Ytapjodbaaejldaa
