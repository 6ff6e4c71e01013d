
/-
The walk of quillkeep.PackCost: it returns true for whatever two lists of numbers.
-/
import Derived.Test.YtmgkoliindicgaaPacks
import Derived.Test.YtmgkoliindicgaaPackIdx
import Derived.Test.YtmgkoliindicgaaTrees
import Derived.Test.YtmgkoliindicgaaOwnTwo
namespace Go.Proofs.Ytmgkoliindicgaa
open Go.RowKit

/-- How often each number stands: once, and as often as i numbers say. -/
def cntW (gm : Nat → Int) (n : Nat) : Nat → Nat → Nat
  | 0, _ => 1
  | i + 1, j => cntW gm n i j + if wi gm n i = (j : Int) then 1 else 0
theorem cntW_le (gm : Nat → Int) (n : Nat) : ∀ i j, 1 ≤ cntW gm n i j ∧ cntW gm n i j ≤ i + 1
  | 0, j => by unfold cntW; omega
  | i + 1, j => by
    have := cntW_le gm n i j
    unfold cntW
    split <;> omega
/-- All numbers once, and then the others. -/
def ttF (gm : Nat → Int) (n k : Nat) : Int := if k < n then (k : Int) else wi gm n (k - n)
theorem ttF_in (gm : Nat → Int) {n : Nat} (h : 0 < n) (k : Nat) : 0 ≤ ttF gm n k ∧ ttF gm n k < (n : Int) := by
  unfold ttF
  split
  · omega
  · exact wi_in gm h _
theorem ttF_low (gm : Nat → Int) {n k : Nat} (h : k < n) : ttF gm n k = (k : Int) := by unfold ttF; rw [if_pos h]
theorem ttF_high (gm : Nat → Int) (n i : Nat) : ttF gm n (n + i) = wi gm n i := by unfold ttF; rw [if_neg (by omega), Nat.add_sub_cancel_left]
theorem sm_add (f g : Nat → Nat) : ∀ n, Cm.sm (fun k => f k + g k) n = Cm.sm f n + Cm.sm g n
  | 0 => rfl
  | n + 1 => by
    show Cm.sm (fun k => f k + g k) n + (f n + g n) = Cm.sm f n + f n + (Cm.sm g n + g n)
    rw [sm_add f g n]
    omega
theorem sm_pick (l : Nat → Nat) (r : Nat) : ∀ n, Cm.sm (fun k => if r = k then l k else 0) n = if r < n then l r else 0
  | 0 => rfl
  | n + 1 => by
    show Cm.sm (fun k => if r = k then l k else 0) n + (if r = n then l n else 0) = _
    rw [sm_pick l r n]
    by_cases h : r < n
    · rw [if_pos h, if_neg (by omega), if_pos (by omega)]; omega
    · by_cases e : r = n
      · subst e; rw [if_neg h, if_pos rfl, if_pos (by omega)]; omega
      · rw [if_neg h, if_neg e, if_neg (by omega)]
theorem tx_once (g : Nat → ByteArray) (gm : Nat → Int) (n : Nat) : ∀ i, i ≤ n → (tx g (ttF gm n) i).length = Cm.sm (fun k => (g k).size) i
  | 0, _ => rfl
  | i + 1, h => by
    rw [tx_succ, List.length_append, wd_len, tx_once g gm n i (by omega), ttF_low gm (by omega)]
    rfl
theorem tx_cost (g : Nat → ByteArray) (gm : Nat → Int) {n : Nat} (h : 0 < n) : ∀ i, (tx g (ttF gm n) (n + i)).length = Hm.ctot (cntW gm n i) (fun k => (g k).size) n
  | 0 => by
    rw [Nat.add_zero, tx_once g gm n n (Nat.le_refl _)]
    unfold Hm.ctot
    refine Cm.sm_congr fun k _ => ?_
    unfold cntW
    rw [Nat.one_mul]
  | i + 1 => by
    have hw := wi_in gm h i
    obtain ⟨r, hr⟩ : ∃ r : Nat, wi gm n i = (r : Int) := ⟨(wi gm n i).toNat, by omega⟩
    rw [← Nat.add_assoc, tx_succ, List.length_append, wd_len, tx_cost g gm h i, ttF_high, hr]
    have e : Hm.ctot (cntW gm n (i + 1)) (fun k => (g k).size) n = Cm.sm (fun k => cntW gm n i k * (g k).size + if r = k then (g k).size else 0) n := by
      unfold Hm.ctot
      refine Cm.sm_congr fun k _ => ?_
      show (cntW gm n i k + if wi gm n i = (k : Int) then 1 else 0) * (g k).size = _
      rw [hr, Nat.add_mul]
      congr 1
      by_cases e : r = k
      · rw [if_pos e, if_pos (by omega), Nat.one_mul]
      · rw [if_neg e, if_neg (by omega), Nat.zero_mul]
    rw [e, sm_add, sm_pick, if_pos (by omega)]
    rfl
theorem four_zeros (w : World) (t : TypeId) : ∀ k, k < 4 → (w.alloc (.cells #[.int .i64 0, .int .i64 0, .int .i64 0, .int .i64 0] t)).cell? ⟨w.heap.size, k, none⟩ = some (.int .i64 0) := by
  intro k hk
  match k, hk with
  | 0, _ => simp
  | 1, _ => simp
  | 2, _ => simp
  | 3, _ => simp
set_option maxHeartbeats 4000000 in
set_option maxRecDepth 100000 in
theorem packCost_walk (A : Option Addr) (n c : Nat) (g : Nat → Int) (B : Option Addr) (m d : Nat) (gm : Nat → Int) (w : World) (_ : IRow w A n g) (hc : n ≤ c) (hs : n * 8 ≤ 140737488351232) (h2 : IRow w B m gm) (hd : m ≤ d) (hs2 : m * 8 ≤ 140737488351232) :
    Calls Try.prog 7 #[.slice A n c, .slice B m d] w fun e w' => e = .returned (.bool true) ∧ Below w.heap.size w w' := by
  have HM := hid h2
  clear h2
  go_enter Try.func7, Try.ntmps7
  go_wp2_with fail
  with_reducible refine (packs_ok _).mono ?_
  rintro e w1 ⟨rfl, hb1⟩
  go_wp2_with fail
  with_reducible refine (trees_ok _).mono ?_
  rintro e w2 ⟨rfl, hb2⟩
  have HB2 := hid (bl_then hb1 hb2)
  have HM2 := hid (HM.out.keep HB2.out)
  clear hb1 hb2 HM
  by_cases h0 : n = 0
  · subst h0
    go_wp2
    go_ret
    exact ⟨rfl, HB2.out⟩
  · have hnz : ((n : Int) == 0) = false := beq_eq_false_iff_ne.2 (by omega)
    have hpos : 0 < n := by omega
    by_cases h12 : 12 < n
    · have h12' : (12 : Int) < (n : Int) := by omega
      clear h0
      go_wp2
      go_ret
      exact ⟨rfl, HB2.out⟩
    · have h12' : decide ((12 : Int) < (n : Int)) = false := decide_eq_false (by omega)
      obtain ⟨q, hq⟩ : ∃ q, q = min m 100 := ⟨_, rfl⟩
      have eq1 : min (m : Int) (100 : Int) = (q : Int) := by omega
      have eq2 : (q : Int) ≤ (d : Int) := by omega
      have hqm : q ≤ m := by omega
      have hq2 : q ≤ 100 := by omega
      clear h0 hq
      go_wp2
      go_loopw [5, 6, 34] (fun v u y wr => ∃ i : Nat, i ≤ n ∧ y = .int .i64 (i : Int) ∧ Hid (OwnI wr w2.heap.size v (rowN' (fun _ => 1) i)) ∧ Hid (OwnI wr w2.heap.size u (rowN' (fun k => (k : Int)) i)) ∧ Hid (Aside v u) ∧ Hid (Below w2.heap.size w2 wr)) (fun _ _ y _ => n - (intOf y).toNat)
      case atStart => exact ⟨0, by omega, rfl, OwnI.zero _ _, OwnI.zero _ _, fun k hk => (by cases hk), Below.refl _ _⟩
      case round =>
        obtain ⟨i, hi, rfl, HO, HT, HA, HB⟩ := hrel
        have hsz := HB.out.size
        by_cases hlt : i < n
        · have hlt' : (i : Int) < (n : Int) := by omega
          have hl1 : (rowN' (fun _ => 1) i).length < 1000000 := by rw [rowN'_len]; omega
          have hl2 : (rowN' (fun k => (k : Int)) i).length < 1000000 := by rw [rowN'_len]; omega
          have HS1 := hid (rowN'_succ (fun _ => 1) i)
          have HS2 := hid (rowN'_succ (fun k => (k : Int)) i)
          go_wp2_with (at_builtin; with_reducible refine app_int2 rfl _ _ rfl rfl HO.out _ rfl rfl hsz hl1 ?_)
          intro v' w3 hown3 hb3 hg3 hv3
          rw [← HS1.out] at hown3
          have HO3 := hid hown3
          have HT3 := hid (HT.out.beside hg3 HA.out)
          have HA3 := hid (HA.out.new_l HT.out.lt_ hv3)
          have HB3 := hid (HB.out.trans hb3)
          clear hown3 hb3 hg3 hv3 HO HT HA HB hsz
          have hsz3 := HB3.out.size
          go_wp2_with (at_builtin; with_reducible refine app_int2 rfl _ _ rfl rfl HT3.out _ rfl rfl hsz3 hl2 ?_)
          intro u' w4 hown4 hb4 hg4 hv4
          rw [← HS2.out] at hown4
          have HT4 := hid hown4
          have HO4 := hid (HO3.out.beside hg4 HA3.out.symm)
          have HA4 := hid (HA3.out.symm.new_l HO3.out.lt_ hv4).symm
          have HB4 := hid (HB3.out.trans hb4)
          clear hown4 hb4 hg4 hv4 HO3 HT3 HA3 HB3 hsz3
          go_wp2
          go_roundw
          case measure => simp [intOf]; omega
          case rel => exact ⟨i + 1, by omega, by go_num, HO4, HT4, HA4, HB4⟩
        · obtain rfl : n = i := by omega
          have hdl : decide ((n : Int) < (n : Int)) = false := decide_eq_false (by omega)
          obtain ⟨b1, c1, rfl, hc1, hb1, _⟩ := HO.out.at_ (by rw [rowN'_len]; exact hpos)
          rw [rowN'_len] at HO HA hc1
          rw [rowN'_len]
          have HO0 : Hid (OwnI wr w2.heap.size (.slice (some ⟨b1, 0, none⟩) n c1) (rowN' (fun j => ((cntW gm n 0 j : Nat) : Int)) n)) := HO.out
          have HT0 : rowN' (fun k => (k : Int)) n = rowN' (ttF gm n) (n + 0) := by
            unfold rowN'
            exact List.map_congr_left fun k hk => (ttF_low gm (List.mem_range.1 hk)).symm
          rw [HT0] at HT
          clear HO HT0
          go_wp2
          go_loopw [6, 51] (fun u y wr => ∃ i : Nat, i ≤ q ∧ y = .int .i64 (i : Int) ∧ Hid (OwnI wr w2.heap.size (.slice (some ⟨b1, 0, none⟩) n c1) (rowN' (fun j => ((cntW gm n i j : Nat) : Int)) n)) ∧ Hid (OwnI wr w2.heap.size u (rowN' (ttF gm n) (n + i))) ∧ Hid (Aside (.slice (some ⟨b1, 0, none⟩) n c1) u) ∧ Hid (Below w2.heap.size w2 wr)) (fun _ y _ => q - (intOf y).toNat)
          case atStart => exact ⟨0, by omega, rfl, HO0, HT, HA, HB⟩
          case round =>
            clear HO0 HT HA HB
            obtain ⟨i, hi, rfl, HO, HT, HA, HB⟩ := hrel
            have hsz := HB.out.size
            by_cases hlt : i < q
            · have hlt' : (i : Int) < (q : Int) := by omega
              obtain ⟨b, o, rfl, hbl, hc0⟩ := HM2.out i (by omega)
              have hci := (HB.out.cell (p := ⟨b, o + i, none⟩) hbl).trans hc0
              have hW := within_any (gm i) n
              have hwi := wi_in gm hpos i
              have HS := hid (rowN'_succ (ttF gm n) (n + i))
              have htt := ttF_high gm n i
              have hln : (rowN' (ttF gm n) (n + i)).length < 1000000 := by rw [rowN'_len]; omega
              obtain ⟨r, hr⟩ : ∃ r, r = (gm i % (n : Int)).toNat := ⟨_, rfl⟩
              have hwr : wi gm n i = (r : Int) := by unfold wi at hwi ⊢; omega
              rw [← hr] at hW
              rw [htt, hwr] at HS
              have hrn : r < n := by omega
              have hrn' : (r : Int) < (n : Int) := by omega
              obtain ⟨hce, hfe⟩ := HO.out.cell (j := r) (by rw [rowN'_len]) (by rw [rowN'_len]; exact hrn)
              rw [rowN'_get hrn] at hce
              have hcb := cntW_le gm n i r
              have HSet : Hid (OwnI (wr.setCell ⟨b1, r, none⟩ (.int .i64 ((cntW gm n i r : Nat) + 1 : Int))) w2.heap.size (.slice (some ⟨b1, 0, none⟩) n c1) (rowN' (fun j => ((cntW gm n (i + 1) j : Nat) : Int)) n) ∧ wr.grownBy (wr.setCell ⟨b1, r, none⟩ (.int .i64 ((cntW gm n i r : Nat) + 1 : Int))) (some b1)) := by
                have h1 := HO.out.store (by rw [rowN'_len]) r ((cntW gm n i r : Nat) + 1 : Int)
                rw [rowN'_set (f' := fun j => ((cntW gm n (i + 1) j : Nat) : Int)) (fun j hj => ?_)] at h1
                · exact h1
                · show ((cntW gm n i j + (if wi gm n i = (j : Int) then 1 else 0) : Nat) : Int) = _
                  rw [hwr]
                  by_cases e : j = r
                  · subst e; rw [if_pos rfl, if_pos rfl]; omega
                  · rw [if_neg (by omega), if_neg e, Nat.add_zero]
              obtain ⟨u0, hu0⟩ : ∃ u0 : Nat, u0 = cntW gm n i r := ⟨_, rfl⟩
              rw [← hu0] at hce hcb HSet
              obtain ⟨u1, hu1⟩ : ∃ u1 : Nat, u1 = u0 + 1 := ⟨_, rfl⟩
              have eu : (u0 : Int) + 1 = (u1 : Int) := by omega
              have ewu : IntKind.i64.wrap (u1 : Int) = (u1 : Int) := IntWalk.i64_in _ (by omega)
              rw [eu] at HSet
              have HO5 := hid HSet.out.1
              have HT5 := hid (HT.out.beside (v := .slice (some ⟨b1, 0, none⟩) n c1) HSet.out.2 HA.out)
              have HB5 : Hid (Below w2.heap.size w2 (wr.setCell ⟨b1, r, none⟩ (.int .i64 (u1 : Int)))) := HB.out.setCell (show w2.heap.size ≤ b1 from hb1) _
              have hsz5 : w2.heap.size ≤ (wr.setCell ⟨b1, r, none⟩ (.int .i64 (u1 : Int))).heap.size := HB5.out.size
              have hlt1 : b1 < wr.heap.size := HO.out.lt_ b1 rfl
              have hse : (wr.setCell ⟨b1, r, none⟩ (.int .i64 (u1 : Int))).heap.size = wr.heap.size := by simp
              clear hc0 hr hwi hwr htt hu0 hu1 HSet HO HT HB
              go_wp2_with fail
              with_reducible refine (hW _ hpos (by omega)).mono ?_
              rintro e w4 ⟨rfl, rfl⟩
              clear hW
              go_wp2_with (at_builtin; with_reducible refine app_int2 rfl _ _ rfl rfl HT5.out wr.heap.size hse rfl hsz hln ?_)
              intro u' w6 hown6 hb6 hg6 hv6
              rw [← HS.out] at hown6
              have HT6 := hid hown6
              have HO6 := hid (HO5.out.beside hg6 HA.out.symm)
              have HA6 := hid (HA.out.symm.new_l (fun k hk => by have := HO5.out.lt_ k hk; rw [hse] at this; exact this) hv6).symm
              have HB6 := hid (HB5.out.trans hb6)
              clear hown6 hb6 hg6 hv6 HT5 HO5 HA HB5 hsz5 HS hce hfe
              go_wp2
              go_roundw
              case measure => simp [intOf]; omega
              case rel => exact ⟨i + 1, by omega, by go_num, HO6, HT6, HA6, HB6⟩
            · obtain rfl : q = i := by omega
              have hdl : decide ((q : Int) < (q : Int)) = false := decide_eq_false (by omega)
              obtain ⟨A5, c5, rfl, hc5, hr5⟩ := HT.out.irow2
              obtain ⟨A6, c6, e6, hc6, hr6⟩ := HO.out.irow2
              injection e6 with e7 _ e8
              subst e7; subst e8
              have R5 := hid hr5
              have Q5 := hid hr6
              have HB5 := hid (bl_then HB2.out HB.out)
              have hcnt := cntW_le gm n q
              have hE : Hm.wErr (fun j => ((cntW gm n q j : Nat) : Int)) n = 0 := Hm.wErr_zero.2 ⟨by omega, fun j hj => by have := hcnt j; omega⟩
              have hln : Cm.ln (fun j => ((cntW gm n q j : Nat) : Int)) = cntW gm n q := by funext j; exact Int.toNat_natCast _
              obtain ⟨q1, q2⟩ := lens_cost hE
              rw [hln] at q2
              have HE := hid hE
              have hTx := tx_cost (tmW (fun j => ((cntW gm n q j : Nat) : Int)) n) gm hpos q
              have hszs : (fun k => (tmW (fun j => ((cntW gm n q j : Nat) : Int)) n k).size) = lensF (fun j => ((cntW gm n q j : Nat) : Int)) n := by funext k; exact tmW_size _ _ _
              rw [hszs] at hTx
              obtain ⟨G, hG⟩ : ∃ G : Nat → Int, G = fun j => ((cntW gm n q j : Nat) : Int) := ⟨_, rfl⟩
              rw [← hG] at Q5 hE q1 q2 HE hTx
              have HGd := hid (tmW_good hE)
              have hP0 : putE (tmW G n) n (ttF gm n) (n + q) = 0 := putE_zero.2 ⟨Cm.cErr_zero.2 HGd.out.1, by omega, fun k _ => ttF_in gm hpos k⟩
              have hPT : putT (tmW G n) n (ttF gm n) (n + q) = tx (tmW G n) (ttF gm n) (n + q) := by unfold putT; rw [if_pos hP0]
              have hPut := fun W A3 c3 (hc3 : n ≤ c3) (h1 : SRow W A3 n (tmW G n)) (h2 : IRow W A5 (n + q) (ttF gm n)) => Put_any (c := c3) (d := c5) W h1 hc3 h2
              unfold PutPost at hPut
              rw [hP0, hPT] at hPut
              have HTx := hid hTx
              have HQ1 := hid q1
              have HQ2 := hid q2
              clear hr5 hr6 HO HT HA HB HM2 HB2 hszs hTx hln hG hP0 hPT q1 q2 hcnt
              go_wp2_with fail
              with_reducible refine (Lens_any _ Q5.out hc6).mono ?_
              rintro e w7 ⟨⟨A7, m7, c7, rfl, hc7, hr7, _, f7⟩, hb7⟩
              obtain rfl : m7 = n := f7 hE
              rw [hE]
              have Q7 := hid (Q5.out.keep hb7)
              have R7 := hid (R5.out.keep hb7)
              have L7 := hid hr7
              have HB7 := hid (bl_then HB5.out hb7)
              clear hr7 hb7 f7 Q5 R5 HB5
              go_wp2_with fail
              with_reducible refine (TMake_any _ Q7.out hc6).mono ?_
              rintro e w8 ⟨⟨A8, m8, c8, rfl, hc8, hr8, _, f8⟩, hb8⟩
              obtain rfl : m8 = m7 := f8 hE
              rw [hE]
              have Q8 := hid (Q7.out.keep hb8)
              have R8 := hid (R7.out.keep hb8)
              have L8 := hid (L7.out.keep hb8)
              have W8 : Hid (SRow w8 A8 m8 (tmW G m8)) := hr8
              have HB8 := hid (bl_then HB7.out hb8)
              clear hr8 hb8 f8 Q7 R7 L7 HB7
              have hCost := Cost_any w8 Q8.out L8.out hc6 hc7
              rw [HQ1.out, HQ2.out] at hCost
              clear hE
              go_wp2_with fail
              with_reducible refine hCost.mono ?_
              rintro e w9 ⟨rfl, hb9⟩
              have R9 := hid (R8.out.keep hb9)
              have W9 := hid (W8.out.keep hb9)
              have HB9 := hid (bl_then HB8.out hb9)
              clear hCost hb9 Q8 R8 L8 W8 HB8
              go_wp2_with fail
              with_reducible refine (hPut _ _ _ hc8 W9.out R9.out).mono ?_
              rintro e w10 ⟨rfl, hb10⟩
              have HB10 := hid (bl_then HB9.out hb10)
              clear hPut hb10 R9 W9 HB9
              obtain ⟨s, hsd⟩ : ∃ s : ByteArray, s = ⟨(tx (tmW G m8) (ttF gm m8) (m8 + q)).toArray⟩ := ⟨_, rfl⟩
              have hsz : s.size = Hm.ctot (cntW gm m8 q) (lensF G m8) m8 := by rw [hsd, ← wd_len, wd_mk]; exact HTx.out
              rw [← hsd, ← hsz]
              clear hsd hsz HTx HQ1 HQ2
              have HB11 := hid (bl_then HB10.out (bl_new w10 (.cells #[.int .i64 0, .int .i64 0, .int .i64 0, .int .i64 0] 24)))
              have hee : ((s.size : Int) == (s.size : Int)) = true := by simp
              go_wp2_with fail
              with_reducible refine (good_ok _ 4 _ _ (by decide) (four_zeros _ _)).mono ?_
              rintro e w12 ⟨rfl, rfl⟩
              go_wp2
              go_ret
              exact ⟨rfl, HB11.out⟩
end Go.Proofs.Ytmgkoliindicgaa
