/-
The contract of quillref.LineOf's inner function, which calls itself.
-/
import Derived.Test.YtiphclgafhbplaaGenMath
import Derived.Test.YtiphclgafhbplaaRingLine
namespace Go.Proofs.Ytiphclgafhbplaa
open Go.RowKit

/-- The memory of the inner function: from block B on k, n, the array, the variables a, out and gen. -/
structure GS (w : World) (B k n : Nat) (a : Nat → Int) (out : List Int) : Prop where
  ck : w.rowIs B 3 1 (fun _ => .int .i64 (k : Int))
  cn : w.rowIs (B + 1) 3 1 (fun _ => .int .i64 (n : Int))
  row : w.rowIs (B + 2) 3 (n + 1) (fun j => .int .i64 (a j))
  ca : w.rowIs (B + 3) 35 1 (fun _ => .slice (some ⟨B + 2, 0, none⟩) (n + 1) (n + 1))
  co : ∃ v, w.rowIs (B + 4) 33 1 (fun _ => v) ∧ OwnB w (B + 6) v out
  cg : w.rowIs (B + 5) 42 1 (fun _ => .func (.func 20) #[] #[.pointer (some ⟨B + 1, 0, none⟩), .pointer (some ⟨B + 3, 0, none⟩), .pointer (some ⟨B + 4, 0, none⟩), .pointer (some ⟨B + 5, 0, none⟩), .pointer (some ⟨B, 0, none⟩)])
theorem GS.drewN {w : World} {B k n : Nat} {a : Nat → Int} {out : List Int} (h : GS w B k n a out) (d : Nat) : GS (w.drewN d) B k n a out := ⟨h.ck, h.cn, h.row, h.ca, h.co, h.cg⟩
theorem GS.store {w : World} {B k n : Nat} {a : Nat → Int} {out : List Int} (h : GS w B k n a out) (t : Nat) (x : Int) : GS (w.setCell ⟨B + 2, t, none⟩ (.int .i64 x)) B k n (fun j => if j = t then x else a j) out := by
  obtain ⟨v, h1, h2⟩ := h.co
  refine ⟨h.ck.setOther (by show B ≠ B + 2; omega) _, h.cn.setOther (by show B + 1 ≠ B + 2; omega) _, (h.row.set t _).congr fun j _ => ?_, h.ca.setOther (by show B + 3 ≠ B + 2; omega) _, ⟨v, h1.setOther (by show B + 4 ≠ B + 2; omega) _, own_of_block h2 fun g hg => ?_⟩, h.cg.setOther (by show B + 5 ≠ B + 2; omega) _⟩
  · by_cases hx : j = t
    · rw [if_pos hx, if_pos hx]
    · rw [if_neg hx, if_neg hx]
  · exact Below.heap_setCell _ _ _ _ (by have := (World.ownsRow.lt h2 g hg).1; show g ≠ B + 2; omega)
theorem GS.app {w w' : World} {B k n : Nat} {a : Nat → Int} {out : List Int} {v v' : Value} {x : Int} (h : GS w B k n a out) (hv : w.rowIs (B + 4) 33 1 (fun _ => v)) (ho : OwnB w (B + 6) v out) (hg : w.grownBy w' v.ownBlock) (ho' : OwnB w' (B + 6) v' (out ++ [x])) :
    w'.rowIs (B + 4) 33 1 (fun _ => v) ∧ GS (w'.setCell ⟨B + 4, 0, none⟩ v') B k n a (out ++ [x]) := by
  have hz := h.cg.lt
  have hb : ∀ g, g < B + 6 → w'.heap[g]? = w.heap[g]? := fun g hg' => hg.block g (by omega) fun e => by have := (World.ownsRow.lt ho g e.symm).1; omega
  have hv' := hv.of_block (hb (B + 4) (by omega))
  refine ⟨hv', ?_⟩
  have hs := (hv'.set 0 v').congr (g := fun _ => v') fun i hi => by rw [if_pos (by omega)]
  refine ⟨(h.ck.of_block (hb B (by omega))).setOther (by show B ≠ B + 4; omega) _, (h.cn.of_block (hb (B + 1) (by omega))).setOther (by show B + 1 ≠ B + 4; omega) _, (h.row.of_block (hb (B + 2) (by omega))).setOther (by show B + 2 ≠ B + 4; omega) _, (h.ca.of_block (hb (B + 3) (by omega))).setOther (by show B + 3 ≠ B + 4; omega) _, ⟨v', hs, own_of_block ho' fun g hg => ?_⟩, (h.cg.of_block (hb (B + 5) (by omega))).setOther (by show B + 5 ≠ B + 4; omega) _⟩
  exact Below.heap_setCell _ _ _ _ (by have := (World.ownsRow.lt ho' g hg).1; show g ≠ B + 4; omega)
/-- What a call of the inner function answers and leaves. -/
def GenTo (w : World) (B k n : Nat) (pre : List Nat) (out : List Int) (e : Ending) (w' : World) : Prop := e = .returned (.tuple #[]) ∧ (∃ a', GS w' B k n a' out ∧ Rm.Pre a' pre) ∧ Below B w w'
set_option maxHeartbeats 1000000 in
theorem gen_end (k n B t p : Nat) (pre : List Nat) (a : Nat → Int) (out : List Int) (w : World) (hn1 : 1 ≤ n) (hn2 : n ≤ 512) (hk8 : k ≤ 8) (ht : t = n + 1) (hl : t = pre.length + 1) (hp1 : 1 ≤ p) (hpn : p ≤ n) (hd : ∀ x, x ∈ pre → x < k)
    (hG : GS w B k n a out) (hP : Rm.Pre a pre) (hout : out.length + (Rm.genL k n 0 pre p).length ≤ 900000) :
    Calls Try.prog 20 #[.int .i64 (t : Int), .int .i64 (p : Int), .pointer (some ⟨B + 1, 0, none⟩), .pointer (some ⟨B + 3, 0, none⟩), .pointer (some ⟨B + 4, 0, none⟩), .pointer (some ⟨B + 5, 0, none⟩), .pointer (some ⟨B, 0, none⟩)] w
      (GenTo w B k n pre (out ++ nums (Rm.genL k n 0 pre p))) := by
  have cn := hG.cn.cell (i := 0) (by omega)
  have ca := hG.ca.cell (i := 0) (by omega)
  have htn : n < t := by omega
  have dt : decide ((n : Int) < (t : Int)) = true := decide_eq_true (by omega)
  have hp0 : ((p : Int) == 0) = false := beq_eq_false_iff_ne.2 (by omega)
  have hp0' : (p : Int) ≠ 0 := by omega
  obtain ⟨m1, m2⟩ := mod_eq n p
  obtain ⟨r, hr⟩ : ∃ r, r = n % p := ⟨_, rfl⟩
  have hrb : r < p := by rw [hr]; exact Nat.mod_lt _ hp1
  rw [← hr] at m1 m2
  have hwr : IntKind.i64.wrap (r : Int) = (r : Int) := i64_of (by omega) (by omega)
  rw [Rm.genL, ← hr] at hout
  rw [Rm.genL, ← hr]
  have HP := hid hP
  have HG := hid hG
  have HD := hid hd
  clear hP hG hd hr
  by_cases hr0 : r = 0
  · rw [if_pos hr0] at hout
    rw [if_pos hr0]
    have e0 : ((r : Int) == 0) = true := by rw [hr0]; rfl
    clear hr0
    obtain ⟨q, hq⟩ : ∃ q, q = p + 1 := ⟨_, rfl⟩
    have eq1 : (p : Int) + 1 = (q : Int) := by omega
    have hwq : IntKind.i64.wrap (q : Int) = (q : Int) := i64_of (by omega) (by omega)
    have hq1 : (1 : Int) ≤ (q : Int) := by omega
    have hqn : (q : Int) ≤ ((n + 1 : Nat) : Int) := by omega
    have hqn2 : (q : Int) ≤ (n : Int) + 1 := by omega
    have eq2 : q - 1 = p := by omega
    have hqn3 : q ≤ n + 1 := by omega
    have HL := hid hl
    have HT := hid ht
    have HQ := hid hq
    clear hl ht hq
    go_enter Try.func20, Try.ntmps20
    go_wp2
    go_loopw [24] (fun x wr => ∃ j : Nat, j ≤ p ∧ x = .int .i64 (j : Int) ∧ Hid (GS wr B k n a (out ++ nums (pre.take j))) ∧ Hid (Below B w wr)) (fun x _ => p - (intOf x).toNat)
    case atStart => exact ⟨0, by omega, rfl, hid (by rw [List.take_zero, show nums [] = [] from rfl, List.append_nil]; exact HG.out), hid (Below.refl _ _)⟩
    case round =>
      clear cn ca
      obtain ⟨j, hj, rfl, HGJ, HB⟩ := hrel
      by_cases hjp : j < p
      · have hjp' : (j : Int) < (p : Int) := by omega
        have hjl : j < pre.length := by have := HL.out; have := HT.out; omega
        have hcj : wr.cell? ⟨B + 2, 1 + j, none⟩ = some (.int .i64 (a (1 + j))) := HGJ.out.row.cell (by omega)
        obtain ⟨x, hx⟩ : ∃ x, x = pre.getD j 0 := ⟨_, rfl⟩
        rw [Nat.add_comm 1 j, HP.out.at_ hjl, ← hx, Nat.add_comm j 1] at hcj
        have hxk : x < k := by rw [hx, getD_lt hjl]; exact HD.out _ (List.getElem_mem hjl)
        have hwx : IntKind.u8.wrap (x : Int) = (x : Int) := IntWalk.u8_in _ (by omega)
        have hwx2 : IntKind.u8.wrap (97 + (x : Int)) = 97 + (x : Int) := IntWalk.u8_in _ (by omega)
        obtain ⟨v, hv, hov⟩ := HGJ.out.co
        have hcv := hv.cell (i := 0) (by omega)
        try simp only at hcv
        have hz := HGJ.out.cg.lt
        have hbz : B + 6 ≤ wr.heap.size := by omega
        have HV := hid hv
        have HOV := hid hov
        have HNX : Hid (out ++ nums (pre.take (j + 1)) = out ++ nums (pre.take j) ++ [97 + (x : Int)]) := by
          show _ = _
          rw [List.take_add_one, List.getElem?_eq_getElem hjl, nums_app, ← List.append_assoc, hx, getD_lt hjl]
          rfl
        have hol : (out ++ nums (pre.take j)).length < 1000000 := by
          rw [List.length_append, nums_len, List.length_take]
          rw [List.length_take] at hout
          omega
        obtain ⟨Y, hY⟩ : ∃ Y, Y = out ++ nums (pre.take j) := ⟨_, rfl⟩
        rw [← hY] at HNX hol HOV HGJ
        clear hv hov hx hY
        go_wp2_with (at_builtin; with_reducible refine app_byte rfl _ _ rfl rfl HOV.out _ rfl rfl hbz hol ?_)
        intro v' w4 hown hb4 hgr
        obtain ⟨A4, c4, hv4, _⟩ := hown.cells
        obtain ⟨l4, hl4⟩ : ∃ l4, l4 = (Y ++ [97 + (x : Int)]).length := ⟨_, rfl⟩
        rw [← hl4] at hv4
        subst hv4
        obtain ⟨g1, g2⟩ := HGJ.out.app HV.out HOV.out hgr hown
        have hc4 := g1.cell (i := 0) (by omega)
        have hf4 := g1.frozen 0
        try simp only at hc4
        rw [← HNX.out] at g2
        have HG4 := hid g2
        have HB4 := hid (show Below B w (w4.setCell ⟨B + 4, 0, none⟩ (.slice A4 l4 c4)) from (HB.out.trans (hb4.mono (show B ≤ B + 6 by omega))).setCell (show B ≤ B + 4 by omega) (.slice A4 l4 c4))
        clear hown hb4 hgr g1 g2 HOV HV HB hl4
        go_wp2
        go_roundw
        case measure => simp [intOf]; omega
        case rel => exact ⟨j + 1, by omega, by go_num, HG4, HB4⟩
      · have dl : decide ((j : Int) < (p : Int)) = false := decide_eq_false (by omega)
        obtain rfl : p = j := by omega
        go_wp2
        refine bodyPost_ret (results_none rfl _ _ _) rfl ?_
        exact ⟨rfl, ⟨a, HGJ.out, HP.out⟩, HB.out⟩
  · rw [if_neg hr0]
    have e0 : ((r : Int) == 0) = false := beq_eq_false_iff_ne.2 (by omega)
    have HL := hid hl
    have HT := hid ht
    clear hr0 hl ht
    go_enter Try.func20, Try.ntmps20
    go_wp2
    refine bodyPost_ret (results_none rfl _ _ _) rfl ?_
    refine ⟨rfl, ⟨a, ?_, HP.out⟩, Below.refl _ _⟩
    rw [show nums [] = [] from rfl, List.append_nil]
    exact HG.out
theorem mem_snoc {k x : Nat} {pre : List Nat} (h : ∀ y, y ∈ pre → y < k) (hx : x < k) : ∀ y, y ∈ pre ++ [x] → y < k := by
  intro y hy
  rcases List.mem_append.1 hy with hy | hy
  · exact h y hy
  · simp at hy; omega
set_option maxHeartbeats 2000000 in
theorem gen_any (k n B : Nat) (hk1 : 1 ≤ k) (hn1 : 1 ≤ n) (hn2 : n ≤ 512) (hk8 : k ≤ 8) : ∀ (m t p : Nat) (pre : List Nat) (a : Nat → Int) (out : List Int) (w : World), t + m = n + 1 → t = pre.length + 1 → 1 ≤ p → p ≤ n → p ≤ t → (∀ x, x ∈ pre → x < k) →
    GS w B k n a out → Rm.Pre a pre → out.length + (Rm.genL k n m pre p).length ≤ 900000 →
    Calls Try.prog 20 #[.int .i64 (t : Int), .int .i64 (p : Int), .pointer (some ⟨B + 1, 0, none⟩), .pointer (some ⟨B + 3, 0, none⟩), .pointer (some ⟨B + 4, 0, none⟩), .pointer (some ⟨B + 5, 0, none⟩), .pointer (some ⟨B, 0, none⟩)] w
      (GenTo w B k n pre (out ++ nums (Rm.genL k n m pre p))) := by
  intro m
  induction m with
  | zero =>
    intro t p pre a out w ht hl hp1 hpn hpt hd hG hP hout
    exact gen_end k n B t p pre a out w hn1 hn2 hk8 (by omega) hl hp1 hpn hd hG hP hout
  | succ m ih =>
    intro t p pre a out w ht hl hp1 hpn hpt hd hG hP hout
    have htn : t ≤ n := by omega
    have dt : decide ((n : Int) < (t : Int)) = false := decide_eq_false (by omega)
    have dt2 : decide (n < t) = false := decide_eq_false (by omega)
    obtain ⟨u, hu⟩ : ∃ u, u = t - p := ⟨_, rfl⟩
    have eu : (t : Int) - (p : Int) = (u : Int) := by omega
    have hwu : IntKind.i64.wrap (u : Int) = (u : Int) := i64_of (by omega) (by omega)
    have hul : u ≤ pre.length := by omega
    obtain ⟨y, hy⟩ : ∃ y, y = Rm.past pre p := ⟨_, rfl⟩
    have hyk : y < k := by rw [hy]; exact Rm.past_low hk1 hd p
    have hpy : ∀ a' : Nat → Int, Rm.Pre a' pre → a' u = (y : Int) := fun a' h => by
      rw [h u hul, hy, hu, hl]
      rfl
    obtain ⟨t1, ht1⟩ : ∃ t1, t1 = t + 1 := ⟨_, rfl⟩
    have et1 : (t : Int) + 1 = (t1 : Int) := by omega
    have hwt1 : IntKind.i64.wrap (t1 : Int) = (t1 : Int) := i64_of (by omega) (by omega)
    obtain ⟨x0, hx0⟩ : ∃ x0, x0 = y + 1 := ⟨_, rfl⟩
    have ex0 : (y : Int) + 1 = (x0 : Int) := by omega
    have hwx0 : IntKind.i64.wrap (x0 : Int) = (x0 : Int) := i64_of (by omega) (by omega)
    have hx0k : x0 ≤ k := by omega
    obtain ⟨R0, hR0⟩ : ∃ R0, R0 = Rm.genL k n m (pre ++ [y]) p := ⟨_, rfl⟩
    obtain ⟨F, hF⟩ : ∃ F : Nat → List Nat, F = fun x => Rm.genL k n m (pre ++ [x]) t := ⟨_, rfl⟩
    have htot : Rm.genL k n (m + 1) pre p = R0 ++ Rm.loopG F (k - x0) x0 := by
      rw [Rm.genL, hR0, hF, hx0, hy, hl]
    rw [htot] at hout
    rw [htot]
    have cn := hG.cn.cell (i := 0) (by omega)
    have ca := hG.ca.cell (i := 0) (by omega)
    have cu := hG.row.cell (i := u) (by omega)
    have ct := hG.row.cell (i := t) (by omega)
    have ft := hG.row.frozen t
    try simp only at cn ca cu ct
    rw [hpy a hP] at cu
    have htn' : (t : Int) < ((n + 1 : Nat) : Int) := by omega
    have htn2 : (t : Int) < (n : Int) + 1 := by omega
    have hun' : (u : Int) < ((n + 1 : Nat) : Int) := by omega
    have hun2 : (u : Int) < (n : Int) + 1 := by omega
    have hG1 : GS ((w.setCell ⟨B + 2, t, none⟩ (.int .i64 (y : Int))).drew) B k n (fun j => if j = t then (y : Int) else a j) out := (hG.store t (y : Int)).drewN 1
    have hP1 : Rm.Pre (fun j => if j = t then (y : Int) else a j) (pre ++ [y]) := hP.app y t hl
    have hb1 : Below B w ((w.setCell ⟨B + 2, t, none⟩ (.int .i64 (y : Int))).drew) := bl_drewN ((Below.refl B w).setCell (show B ≤ B + 2 by omega) _) 1
    have cg1 := hG1.cg.cell (i := 0) (by omega)
    have HIH1 := hid (ih t1 p (pre ++ [y]) (fun j => if j = t then (y : Int) else a j) out ((w.setCell ⟨B + 2, t, none⟩ (.int .i64 (y : Int))).drew) (by omega) (by rw [List.length_append]; simp; omega) hp1 hpn (by omega) (mem_snoc hd hyk) hG1 hP1 (by rw [← hR0]; rw [List.length_append] at hout; omega))
    rw [← hR0] at HIH1
    have HB1 := hid hb1
    have HPY := hid hpy
    have HL := hid hl
    have HT := hid ht
    have HD := hid hd
    have HF := hid hF
    have HU := hid hu
    have HT1 := hid ht1
    have HX0 := hid hx0
    have HOUT := hid hout
    have HIH := hid ih
    clear hG hP hG1 hP1 hb1 hpy hl ht hd hF hu ht1 hx0 hout ih hy hR0 htot
    go_enter Try.func20, Try.ntmps20
    go_wp2
    go_region
    generalize (w.setCell ⟨B + 2, t, none⟩ (.int .i64 (y : Int))).drew = w1 at *
    go_wp2_with fail
    with_reducible refine HIH1.out.mono ?_
    rintro e w2 ⟨rfl, ⟨a2, hG2, hP2⟩, hb2⟩
    have hP2' := hP2.less
    have ca2 := hG2.ca.cell (i := 0) (by omega)
    have cu2 := hG2.row.cell (i := u) (by omega)
    try simp only at ca2 cu2
    rw [HPY.out a2 hP2'] at cu2
    have HG2 := hid hG2
    have HP2 := hid hP2'
    have HB2 := hid (HB1.out.trans hb2)
    clear hG2 hP2 hP2' hb2 cn ca cu ct ft HB1 cg1 HIH1
    obtain ⟨T, hT⟩ : ∃ T, T = R0 ++ Rm.loopG F (k - x0) x0 := ⟨_, rfl⟩
    rw [← hT] at HOUT ⊢
    have HTT := hid hT
    clear hT
    go_wp2
    go_loopw [11] (fun z wr => ∃ x : Nat, x0 ≤ x ∧ x ≤ k ∧ z = .int .i64 (x : Int) ∧ Hid (∃ a' done, GS wr B k n a' (out ++ nums done) ∧ Rm.Pre a' pre ∧ done ++ Rm.loopG F (k - x) x = T) ∧ Hid (Below B w wr)) (fun z _ => k - (intOf z).toNat)
    case atStart => exact ⟨x0, by omega, by omega, rfl, hid ⟨a2, R0, HG2.out, HP2.out, HTT.out.symm⟩, HB2⟩
    case round =>
      clear HG2 HP2 HB2 ca2 cu2
      obtain ⟨x, hx1, hxk, rfl, HX, HB⟩ := hrel
      obtain ⟨a3, done, hG3, hP3, htot⟩ := HX.out
      have ck3 := hG3.ck.cell (i := 0) (by omega)
      try simp only at ck3
      by_cases hlt : x < k
      · have hltI : (x : Int) < (k : Int) := by omega
        have ca3 := hG3.ca.cell (i := 0) (by omega)
        have ct3 := hG3.row.cell (i := t) (by omega)
        have ft3 := hG3.row.frozen t
        try simp only at ca3 ct3
        have hG4 := hG3.store t (x : Int)
        have hP4 := hP3.app x t HL.out
        have hb4 : Below B w (wr.setCell ⟨B + 2, t, none⟩ (.int .i64 (x : Int))) := HB.out.setCell (show B ≤ B + 2 by omega) _
        have cg4 := hG4.cg.cell (i := 0) (by omega)
        have hstep : Rm.loopG F (k - x) x = F x ++ Rm.loopG F (k - (x + 1)) (x + 1) := by
          rw [show k - x = (k - (x + 1)) + 1 by omega, Rm.loopG]
        rw [hstep] at htot
        have hol : (out ++ nums done).length + (F x).length ≤ 900000 := by
          have h1 := HOUT.out
          rw [← htot, List.length_append, List.length_append] at h1
          rw [List.length_append, nums_len]
          omega
        have hih := HIH.out t1 t (pre ++ [x]) _ (out ++ nums done) _ (by have := HT.out; have := HT1.out; omega) (by have := HT1.out; have := HL.out; rw [List.length_append]; simp; omega) (by have := HL.out; omega) htn (by have := HT1.out; omega) (mem_snoc HD.out hlt) hG4 hP4 (by have := hol; rw [HF.out] at this; exact this)
        have hFx : Rm.genL k n m (pre ++ [x]) t = F x := by rw [HF.out]
        rw [hFx, List.append_assoc, ← nums_app] at hih
        have HI := hid hih
        have HB4 := hid hb4
        have HTO := hid htot
        clear hG3 hP3 htot hG4 hP4 hb4 hstep hol hih hFx HX HB
        go_wp2_with fail
        with_reducible refine HI.out.mono ?_
        rintro e w5 ⟨rfl, ⟨a5, hG5, hP5⟩, hb5⟩
        have HX5 := hid (show ∃ a' done, GS w5 B k n a' (out ++ nums done) ∧ Rm.Pre a' pre ∧ done ++ Rm.loopG F (k - (x + 1)) (x + 1) = T from ⟨a5, done ++ F x, hG5, hP5.less, by rw [List.append_assoc]; exact HTO.out⟩)
        have HB5 := hid (HB4.out.trans hb5)
        clear hG5 hP5 hb5 HI HB4 HTO cg4 ct3 ft3 ca3 ck3
        go_wp2
        go_roundw
        case measure => simp [intOf]; omega
        case rel => exact ⟨x + 1, by omega, by omega, by go_num, HX5, HB5⟩
      · have dl : decide ((x : Int) < (k : Int)) = false := decide_eq_false (by omega)
        rw [show k - x = 0 by omega, Rm.loopG, List.append_nil] at htot
        subst htot
        have HG3 := hid hG3
        have HP3 := hid hP3
        clear hG3 hP3 HX
        go_wp2
        go_end0
        exact ⟨rfl, ⟨a3, by rw [← HTT.out]; exact HG3.out, HP3.out⟩, HB.out⟩
end Go.Proofs.Ytiphclgafhbplaa
