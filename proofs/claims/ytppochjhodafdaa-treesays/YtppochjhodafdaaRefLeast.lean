/-
The contract of quillref.LeastCost.
-/
import Derived.Test.YtppochjhodafdaaRefTake
import Derived.Test.YtppochjhodafdaaVanMath
import Derived.Test.YtppochjhodafdaaShelfI
import Derived.Sort.OwnSortedInts
import Derived.Laws.EntriesVeiled
namespace Go.Proofs.Ytppochjhodafdaa
open Go.RowKit

theorem sort_i (w : World) (base : Nat) (v : Value) (L : List Int) (hown : OwnI w base v L) (hl : L.length < 1000000) :
    Calls Try.prog 26 #[v] w fun e w' => e = .returned (.tuple #[]) ∧ OwnI w' base v (L.mergeSort fun x y => decide (x ≤ y)) ∧ w.grownBy w' v.ownBlock := by
  have hlen : (L.mergeSort fun x y => decide (x ≤ y)).length = L.length := (List.mergeSort_perm _ _).length_eq
  rcases hown.2 with ⟨rfl, h0⟩ | ⟨g, cap, cur, rfl, h1, h2, h3, h4, h5, h6⟩
  · have hL : L = [] := by simpa using h0
    subst hL
    refine (Try.slices_Sort_int_none none 0 w).mono ?_
    rintro e w1 ⟨rfl, rfl⟩
    exact ⟨rfl, by simpa using hown, World.grownBy.refl _ _⟩
  · rw [Nat.mul_one] at h6
    refine (Try.slices_Sort_int g 0 cap L w (holds_of_blockI h2 h6) (Array.getElem?_eq_some_iff.1 h2).1 (by omega)).mono ?_
    rintro e w1 ⟨rfl, n, os, rfl⟩
    refine ⟨rfl, ?_, grownBy_sortedI (n := n) (os := os) _⟩
    have := ownsRow_sortedI (n := n) (os := os) hlen h1 h2 h3 h4 h5
    unfold OwnI
    rw [hlen]
    exact this
/-- What LeastCost hands back. -/
def LeastPost (wt : Nat → Nat) (n : Nat) (w : World) (e : Ending) (w' : World) : Prop :=
  ∃ r : Nat, e = .returned (.int .i64 (r : Int)) ∧ (n = 1 → r = wt 0) ∧ (2 ≤ n → Hm.Best ((List.range n).map wt) r) ∧ Below w.heap.size w w'
theorem sorted_up (L : List Int) : (L.mergeSort fun x y => decide (x ≤ y)).Pairwise (· ≤ ·) := by
  have hs := List.pairwise_mergeSort (le := fun x y : Int => decide (x ≤ y)) (fun a b c h1 h2 => decide_eq_true (Int.le_trans (of_decide_eq_true h1) (of_decide_eq_true h2))) (fun a b => by simp; exact Int.le_total a b) L
  exact hs.imp fun h => of_decide_eq_true h
/-- The walk behind the sorting: s has been summed up. -/
def LeastAt (W0 : List Nat) (T : Int) (La Lb : List Int) (s : Nat) : Prop :=
  Hm.VL La Lb ∧ Hm.tsum (La ++ Lb) = T ∧ ∀ c, Hm.Best ((La ++ Lb).map Int.toNat) c → Hm.Best W0 (s + c)
theorem LCM.app {w w' : World} {base Ba Bb : Nat} {va vb vb' : Value} {La Lb Lb' : List Int} (h : LCM w base Ba Bb va vb La Lb) (hg : w.grownBy w' vb.ownBlock) (hq : QI w' base vb' Lb') (hv : vb'.ownBlock = vb.ownBlock ∨ ∃ k, vb'.ownBlock = some k ∧ w.heap.size ≤ k) :
    LCM (w'.setCell ⟨Bb, 0, none⟩ vb') base Ba Bb va vb' La Lb' := by
  have la := h.ca.lt
  have lb := h.cb.lt
  have hbl : ∀ k, k ≠ Bb → (w'.setCell ⟨Bb, 0, none⟩ vb').heap[k]? = w'.heap[k]? := fun k hk => Below.heap_setCell _ _ _ k hk
  have hsz : w'.heap.size ≤ (w'.setCell ⟨Bb, 0, none⟩ vb').heap.size := by simp
  have hn : ∀ k, k < w.heap.size → vb.ownBlock ≠ some k → vb'.ownBlock ≠ some k := by
    intro k hk hne e
    rcases hv with hv | ⟨j, hj, hj2⟩
    · exact hne (hv ▸ e)
    · rw [hj] at e
      injection e with e
      omega
  have hq1 : QI w' base va La := h.qa.keep hg.size fun k hk => hg.block k (h.qa.lt k hk).2 fun e => h.ab k hk e.symm
  refine ⟨(h.ca.of_block (hg.block Ba la fun e => h.b1.1 e.symm)).of_block (hbl Ba h.nab), ((h.cb.of_block (hg.block Bb lb fun e => h.b1.2 e.symm)).set 0 vb').congr fun j hj => ?_, hq1.keep hsz fun k hk => hbl k fun e => ?_, hq.keep hsz fun k hk => hbl k fun e => ?_, h.nab, h.a1, ⟨hn Ba la h.b1.1, hn Bb lb h.b1.2⟩, fun k hk => hn k (h.qa.lt k hk).2 (h.ab k hk), h.ha, h.hb⟩
  · obtain rfl : j = 0 := by omega
    rw [if_pos rfl]
  · rw [e] at hk; exact h.a1.2 hk
  · rw [e] at hk; exact hn Bb lb h.b1.2 hk
theorem below_grown {w w1 w2 : World} {base : Nat} {r : Option Nat} (h : Below base w w1) (hb : base ≤ w1.heap.size) (hg : w1.grownBy w2 r) (hr : ∀ k, r = some k → base ≤ k) : Below base w w2 := h.grown hg hb hr
theorem least_start {wt : Nat → Nat} {n : Nat} {zs : List Int} (hz : zs = (List.range n).map (fun k => (wt k : Int))) (hw : ∀ k, k < n → wt k ≤ 10000) (hn : n ≤ 12) :
    ∃ T : Int, T ≤ 120000 ∧ LeastAt ((List.range n).map wt) T (zs.mergeSort fun x y => decide (x ≤ y)) [] 0 := by
  have hp : (zs.mergeSort fun x y => decide (x ≤ y)).Perm zs := List.mergeSort_perm _ _
  have hnn : ∀ u ∈ zs, 0 ≤ u ∧ u ≤ 10000 := by
    intro u hu
    rw [hz] at hu
    obtain ⟨k, hk, rfl⟩ := List.mem_map.1 hu
    have := hw k (List.mem_range.1 hk)
    omega
  have hs : ∀ L : List Int, (∀ u ∈ L, 0 ≤ u ∧ u ≤ 10000) → Hm.tsum L ≤ 10000 * L.length := by
    intro L
    induction L with
    | nil => intro _; decide
    | cons x L ih =>
      intro h
      have h1 := ih fun u hu => h u (List.mem_cons_of_mem _ hu)
      have h2 := h x List.mem_cons_self
      show x + Hm.tsum L ≤ 10000 * ((L.length + 1 : Nat) : Int)
      omega
  have hl : zs.length = n := by rw [hz]; simp
  refine ⟨Hm.tsum ((zs.mergeSort fun x y => decide (x ≤ y)) ++ []), ?_, ⟨sorted_up zs, List.Pairwise.nil, 0, Int.le_refl 0, fun u hu => ?_, fun z hz => (by cases hz)⟩, rfl, fun c hc => ?_⟩
  · rw [List.append_nil, Hm.tsum_perm hp]
    have := hs zs hnn
    omega
  · rw [List.append_nil] at hu
    exact (hnn u (hp.mem_iff.1 hu)).1
  · rw [List.append_nil] at hc
    rw [Nat.zero_add]
    refine hc.perm ((hp.map Int.toNat).trans ?_)
    rw [hz, List.map_map]
    exact List.Perm.of_eq (List.map_congr_left fun k _ => rfl)
set_option maxHeartbeats 2000000 in
theorem LeastCost_ok {A : Option Addr} {n c : Nat} {wt : Nat → Nat} (w : World) (h : IRow w A n (fun k => (wt k : Int))) (h1 : 1 ≤ n) (hn : n ≤ 12) (hw : ∀ k, k < n → wt k ≤ 10000) :
    Calls Try.prog 14 #[.slice A n c] w (LeastPost wt n w) := by
  obtain ⟨b, o, rfl, hlt, _⟩ := h 0 (by omega)
  have hcells : ∀ k, k < n → w.cell? ⟨b, o + k, none⟩ = some (.int .i64 (wt k : Int)) := by
    intro k hk
    obtain ⟨b', o', e, _, hc⟩ := h k hk
    injection e with e
    injection e with e1 e2
    subst e1; subst e2
    exact hc
  obtain ⟨zs, hzs⟩ : ∃ zs, zs = (List.range n).map (fun k => (wt k : Int)) := ⟨_, rfl⟩
  have hzl : zs.length = n := by rw [hzs]; simp
  have hzg : ∀ j, j < n → zs.getD j 0 = (wt j : Int) := fun j hj => by
    rw [hzs, List.getD_eq_getElem?_getD, List.getElem?_map, List.getElem?_range hj]; rfl
  have HZ := hid hzs
  have HW := hid hw
  clear h hzs hw
  have hC := Try.slices_Clone_int b o n c zs w (by omega) (by omega) (fun j hj => by rw [hzg j (by omega)]; exact hcells j (by omega))
  clear hcells hzg
  go_enter Try.func14, Try.ntmps14
  go_wp2_with fail
  with_reducible refine hC.mono ?_
  rintro e w1 ⟨v, rfl, hown, _, hb1⟩
  rw [List.take_of_length_le (by omega)] at hown
  have HO : Hid (OwnI w1 w.heap.size v zs) := by
    show OwnI _ _ _ _
    unfold OwnI
    rw [hzl]
    exact hown
  obtain ⟨g, cap, hv⟩ : ∃ g cap, v = .slice (some ⟨g, 0, none⟩) n cap := by
    rcases hown.2 with ⟨_, h0⟩ | ⟨g, cap, cur, e, _⟩
    · omega
    · exact ⟨g, cap, e⟩
  subst hv
  have hg := World.ownsRow.lt hown g rfl
  clear hown hC
  have hcell0 : (w1.alloc (.cells #[.slice (some ⟨g, 0, none⟩) n cap] 22)).rowIs w1.heap.size 22 1 (fun _ => .slice (some ⟨g, 0, none⟩) n cap) := World.rowIs_alloc w1 _ 22 _ (fun i hi => by
    obtain rfl : i = 0 := by simpa using hi
    rfl)
  have HO2 : Hid (OwnI (w1.alloc (.cells #[.slice (some ⟨g, 0, none⟩) n cap] 22)) w.heap.size (.slice (some ⟨g, 0, none⟩) n cap) zs) := World.ownsRow.alloc HO.out _
  have HB2 := hid (bl_then hb1 (bl_new w1 (.cells #[.slice (some ⟨g, 0, none⟩) n cap] 22)))
  obtain ⟨Ba, hBa⟩ : ∃ Ba, Ba = w1.heap.size := ⟨_, rfl⟩
  rw [← hBa] at hcell0 hg
  have hwB : w.heap.size ≤ Ba := by rw [hBa]; exact hb1.size
  clear HO hb1
  go_wp2_with fail
  rw [← hBa]
  generalize w1.alloc (.cells #[.slice (some ⟨g, 0, none⟩) n cap] 22) = w2 at hcell0 HO2 HB2 ⊢
  clear hBa w1
  with_reducible refine (sort_i w2 w.heap.size _ zs HO2.out (by omega)).mono ?_
  rintro e w3 ⟨rfl, hown3, hg3⟩
  have hc3 := hcell0.of_block (hg3.block Ba hcell0.lt (fun e => by injection e with e; have : Ba = g := e; omega))
  have HB3 := hid (below_grown HB2.out HB2.out.size hg3 (fun k hk => by injection hk with hk; have : g = k := hk; omega))
  have hsl : (zs.mergeSort fun x y => decide (x ≤ y)).length = n := by rw [(List.mergeSort_perm _ _).length_eq, hzl]
  have hq3 := QI.of_own hown3
  obtain ⟨T, hT, hLA⟩ := least_start HZ.out HW.out hn
  have HLA := hid hLA
  have HSO : Hid ((zs.mergeSort fun x y => decide (x ≤ y)).Perm zs) := List.mergeSort_perm _ _
  clear hown3 hg3 hcell0 HO2 HB2 hLA
  generalize (zs.mergeSort fun x y => decide (x ≤ y)) = S at hsl hq3 HLA HSO
  have hcell := hc3.cell (show 0 < 1 by omega)
  by_cases hn1 : n = 1
  · have hn1' : ((n : Int) == 1) = true := by rw [hn1]; rfl
    have hpos : (0 : Int) < (n : Int) := by omega
    obtain ⟨x, rfl⟩ : ∃ x, S = [x] := List.length_eq_one_iff.1 (hsl.trans hn1)
    obtain ⟨_, _, hx, _⟩ := hq3.tail
    have HX : Hid (x = ((wt 0 : Nat) : Int)) := by
      have h2 := HSO.out
      rw [HZ.out, hn1] at h2
      have h3 : [x] = [((wt 0 : Nat) : Int)] := List.perm_singleton.1 h2
      injection h3
    have HN := hid hn1
    clear hq3 HLA HSO hsl hzl hn1
    go_wp2
    go_ret
    refine ⟨wt 0, ?_, fun _ => rfl, fun h => by have := HN.out; omega, HB3.out⟩
    rw [← HX.out]
    rfl
  · have hn1' : ((n : Int) == 1) = false := beq_eq_false_iff_ne.2 (by omega)
    have HL0 : Hid (LCM (w3.alloc (.cells #[.slice none 0 0] 22)) w.heap.size Ba w3.heap.size (.slice (some ⟨g, 0, none⟩) n cap) (.slice none 0 0) S []) := by
      have hla := hc3.lt
      have hbn := bl_new w3 (.cells #[.slice none 0 0] 22)
      refine ⟨hc3.of_block (hbn.block Ba hla), World.rowIs_alloc w3 _ 22 _ (fun i hi => by
        obtain rfl : i = 0 := by simpa using hi
        rfl), hq3.keep hbn.size (fun k hk => hbn.block k (hq3.lt k hk).2), QI.nil _ _, by omega, ⟨fun e => ?_, fun e => ?_⟩, ⟨(by intro e; cases e), (by intro e; cases e)⟩, fun k _ e => (by cases e), hwB, HB3.out.size⟩
      · injection e with e
        have : g = Ba := e
        omega
      · injection e with e
        have : g = w3.heap.size := e
        omega
    have HB4 := hid (HB3.out.trans ((bl_new w3 (.cells #[.slice none 0 0] 22)).mono HB3.out.size))
    clear hq3 hc3 HSO
    go_wp2
    clear hcell HB3
    generalize w3.alloc (.cells #[.slice none 0 0] 22) = w4 at HL0 HB4 ⊢
    generalize w3.heap.size = Bb at HL0 ⊢
    generalize (Value.slice (some ⟨g, 0, none⟩) n cap) = va0 at HL0
    go_loopg [6] n (fun gg x wr => ∃ (G s : Nat) (La Lb : List Int) (va vb : Value), G = gg ∧ x = .int .i64 (s : Int) ∧ G = La.length + Lb.length ∧ 1 ≤ G ∧ G ≤ 12 ∧ s ≤ (12 - G) * 120000 ∧ Hid (LCM wr w.heap.size Ba Bb va vb La Lb) ∧ Hid (LeastAt ((List.range n).map wt) T La Lb s) ∧ Hid (Below w.heap.size w wr))
    case atStart => exact ⟨n, 0, S, [], _, _, rfl, rfl, by simp [hsl], by omega, by omega, by omega, HL0, HLA, HB4⟩
    case round =>
      clear HL0 HLA HB4
      obtain ⟨G, s, La, Lb, va, vb, rfl, rfl, hG, hG1, hG2, hs, HL, HA, HB⟩ := hrel
      obtain ⟨A1, c1, e1, _⟩ := HL.out.qa.len
      obtain ⟨A2, c2, e2, _⟩ := HL.out.qb.len
      have hca := HL.out.ca.cell (show 0 < 1 by omega)
      have hcb := HL.out.cb.cell (show 0 < 1 by omega)
      rw [e1] at hca
      rw [e2] at hcb
      have HG := hid hG
      obtain ⟨p, hp⟩ : ∃ p, p = La.length := ⟨_, rfl⟩
      obtain ⟨q, hq⟩ : ∃ q, q = Lb.length := ⟨_, rfl⟩
      rw [← hp] at hca
      rw [← hq] at hcb
      have hpq : G = p + q := by omega
      have HPQ : Hid (p = La.length ∧ q = Lb.length) := ⟨hp, hq⟩
      clear hp hq hG e1 e2
      by_cases hg1 : 1 < G
      · have hg1' : (1 : Int) < (p : Int) + (q : Int) := by omega
        have hpb : p ≤ 12 := by omega
        have hqb : q ≤ 12 := by omega
        have HT1 := hid (take_any HL.out (by rw [← HG.out]; omega))
        go_wp2_with fail
        with_reducible refine HT1.out.mono ?_
        rintro e w5 ⟨x, La1, Lb1, va1, vb1, rfl, hL1, hb5, ht1⟩
        have ht1' : Hm.Tk x La Lb La1 Lb1 := ht1
        have hlen1 : La.length + Lb.length = La1.length + Lb1.length + 1 := by
          rcases ht1 with ⟨h1, h2, _⟩ | ⟨h1, h2, _⟩
          · rw [h1, h2, List.length_cons]; omega
          · rw [h1, h2, List.length_cons]; omega
        have HT2 := hid (take_any hL1 (by have := HG.out; omega))
        have HK1 := hid ht1'
        have HB5 := hid (HB.out.trans hb5)
        clear ht1 ht1' hL1 hb5 hlen1 HT1 HL HB hca hcb
        go_wp2_with fail
        with_reducible refine HT2.out.mono ?_
        rintro e w6 ⟨y, La2, Lb2, va2, vb2, rfl, hL2, hb6, ht2⟩
        have HK2 : Hid (Hm.Tk y La1 Lb1 La2 Lb2) := ht2
        have HB6 := hid (HB5.out.trans hb6)
        obtain ⟨hV, hT0, hB0⟩ := HA.out
        obtain ⟨s1, s2, s3, s4, s5, s6, s7⟩ := hV.step HK1.out HK2.out
        have hxy0 : 0 ≤ x + y := by omega
        have hxy1 : x + y ≤ 120000 := by omega
        obtain ⟨z, hz⟩ : ∃ z : Nat, (z : Int) = x + y := ⟨(x + y).toNat, by omega⟩
        have hzb : z ≤ 120000 := by omega
        have HZ2 : Hid (z = x.toNat + y.toNat) := by show _ = _; omega
        have HA2 : Hid (LeastAt ((List.range n).map wt) T La2 (Lb2 ++ [(z : Int)]) (s + z)) := by
          rw [hz]
          refine ⟨s1, by rw [s4]; exact hT0, fun c hc => ?_⟩
          have h8 := hB0 _ (s7 c hc)
          rw [HZ2.out, Nat.add_assoc]
          exact h8
        have HLen : Hid (La2.length + Lb2.length + 2 = G) := by show _ = _; rw [HG.out]; omega
        have HL2 := hid hL2
        obtain ⟨A3, c3, e3, _⟩ := hL2.qb.len
        have hcb2 := hL2.cb.cell (show 0 < 1 by omega)
        have hroom := hL2.cb.frozen 0
        have hwf : IntKind.i64.wrap (x + y) = (z : Int) := by rw [← hz]; exact IntWalk.i64_in _ (by omega)
        have hs6 : w.heap.size ≤ w6.heap.size := HB6.out.size
        have hl6 : Lb2.length < 1000000 := by have := HLen.out; omega
        have Hz := hid hz
        clear ht2 hb6 hL2 HT2 HK1 HK2 HB5 HA hV hT0 hB0 s1 s2 s3 s4 s5 s6 s7 hxy0 hxy1
        have hzz : x + y = (z : Int) := Hz.out.symm
        clear hz
        rw [e3] at hcb2
        have HQ6 : Hid (QI w6 w.heap.size (.slice A3 Lb2.length c3) Lb2) := by rw [← e3]; exact HL2.out.qb
        have HE3 := hid e3
        clear e3
        go_wp2_with (at_builtin; with_reducible refine app_q rfl _ _ rfl rfl HQ6.out _ rfl rfl hs6 hl6 ?_)
        intro v7 w7 hq7 hg7 hv7
        have HQ7 : Hid (QI w7 w.heap.size v7 (Lb2 ++ [(z : Int)])) := hq7
        rw [← HE3.out] at hg7 hv7
        have HL7 := hid (HL2.out.app hg7 hq7 hv7)
        have HB7 := hid ((below_grown HB6.out hs6 hg7 (fun k hk => (HL2.out.qb.lt k hk).1)).setCell (p := ⟨Bb, 0, none⟩) HL2.out.hb v7)
        have hcb7 : w7.cell? ⟨Bb, 0, none⟩ = some (.slice A3 Lb2.length c3) := by
          rw [← hcb2]
          exact World.cell?_of_block (hg7.block Bb HL2.out.cb.lt fun e => HL2.out.b1.2 e.symm)
        have hroom7 : w7.frozen? ⟨Bb, 0, none⟩ = false := by
          rw [← hroom]
          exact World.frozen?_of_block (hg7.block Bb HL2.out.cb.lt fun e => HL2.out.b1.2 e.symm)
        obtain ⟨A4, c4, e4, _⟩ := hq7.len
        rw [show (Lb2 ++ [(z : Int)]).length = Lb2.length + 1 by simp] at e4
        subst e4
        clear hq7 hg7 hv7 HQ6 HQ7 HL2 HB6 hcb2 hroom
        go_wp2
        go_roundg (G - 1)
        case measure => omega
        case rel =>
          refine ⟨G - 1, s + z, La2, Lb2 ++ [(z : Int)], va2, _, rfl, by go_num, ?_, by omega, by omega, ?_, HL7, HA2, HB7⟩
          · have := HLen.out
            rw [List.length_append, List.length_singleton]
            omega
          · obtain ⟨k, rfl⟩ : ∃ k, G = k + 1 := ⟨G - 1, by omega⟩
            rw [Nat.add_sub_cancel]
            have e : 12 - k = 12 - (k + 1) + 1 := by omega
            rw [e, Nat.add_mul]
            omega
      · have hg1' : decide ((1 : Int) < (p : Int) + (q : Int)) = false := decide_eq_false (by omega)
        have hpb : p ≤ 12 := by omega
        have hqb : q ≤ 12 := by omega
        have HR : Hid (Hm.Best ((List.range n).map wt) s) := by
          have h2 := HA.out.2.2
          have hl : (La ++ Lb).length = 1 := by rw [List.length_append, ← HG.out]; omega
          obtain ⟨u, hu⟩ := List.length_eq_one_iff.1 hl
          rw [hu] at h2
          exact h2 0 (Hm.Best.one _)
        have HN := hid hn1
        clear HL HA HG HPQ hn1
        go_wp2
        go_ret
        exact ⟨s, rfl, fun h => absurd h HN.out, fun _ => HR.out, HB.out⟩
end Go.Proofs.Ytppochjhodafdaa
