/-
The walk of quilllaw.TreeSays: it returns true for every list of weights and every list of lengths. (Written by tools/mk_treesays.py.)
-/
import Derived.Test.YtppochjhodafdaaTreeC
import Derived.Test.YtppochjhodafdaaRefWt
import Derived.Test.YtppochjhodafdaaRefLeast
import Derived.Test.YtppochjhodafdaaRefCodes
import Derived.Test.YtppochjhodafdaaSAlike
import Derived.Deep.RegionHeld3
namespace Go.Proofs.Ytppochjhodafdaa
open Go.RowKit

theorem LensErr_ok {A : Option Addr} {n c : Nat} {g : Nat → Int} (w : World) (h : IRow w A n g) :
    Calls Try.prog 13 #[.slice A n c] w fun e w' => e = .returned (.tuple #[.int .i64 (lSum g n), .int .i64 (Cm.lErr g n)]) ∧ w = w' := by
  by_cases hn : n ≤ 12
  · exact lensErr_small w h hn
  · have h1 : Cm.lErr g n = 2 := by unfold Cm.lErr; rw [if_pos (by omega)]
    have h2 : lSum g n = 0 := by unfold lSum; rw [if_neg (by rw [h1]; decide)]
    rw [h1, h2]
    exact lensErr_large w (by omega)
theorem cost_clo {A B : Option Addr} {n c d Bw : Nat} {W l : Nat → Nat} (w : World) (hcell : w.cell? ⟨Bw, 0, none⟩ = some (.slice A n c)) (h : IRow w A n (fun k => (W k : Int))) (hl : IRow w B n (fun k => (l k : Int))) (hn : n ≤ 12) (hW : ∀ k, k < n → W k ≤ 10000) (hL : ∀ k, k < n → l k ≤ 12) :
    Calls Try.prog 12 #[.slice B n d, .pointer (some ⟨Bw, 0, none⟩)] w fun e w' => e = .returned (.int .i64 ((Hm.ctot W l n : Nat) : Int)) ∧ w = w' := by
  have H := hid h
  have HL := hid hl
  have HW := hid hW
  have HLe := hid hL
  clear h hl hW hL
  go_enter Try.func12, Try.ntmps12
  go_wp2
  go_loopw [4, 9] (fun x y wr => ∃ i s : Nat, i ≤ n ∧ s ≤ i * 120000 ∧ x = .int .i64 (s : Int) ∧ y = .int .i64 (i : Int) ∧ Hid (s = Hm.ctot W l i) ∧ w = wr) (fun _ y _ => n - (intOf y).toNat)
  case atStart => exact ⟨0, 0, by omega, by omega, rfl, rfl, rfl, rfl⟩
  case round =>
    obtain ⟨i, s, hi, hs, rfl, rfl, HS, rfl⟩ := hrel
    by_cases hlt : i < n
    · have hlt' : (i : Int) < (n : Int) := by omega
      obtain ⟨b, o, rfl, _, hci⟩ := H.out i hlt
      obtain ⟨b2, o2, rfl, _, hli⟩ := HL.out i hlt
      have h1 := HW.out i hlt
      have h2 := HLe.out i hlt
      have HS2 : Hid (s + W i * l i = Hm.ctot W l (i + 1)) := by
        show _ = Hm.ctot W l i + W i * l i
        rw [HS.out]
      have hci' : w.cell? ⟨b, o + i, none⟩ = some (.int .i64 (W i : Int)) := hci
      have hli' : w.cell? ⟨b2, o2 + i, none⟩ = some (.int .i64 (l i : Int)) := hli
      clear hci hli HS
      generalize W i = x at hci' h1 HS2
      generalize l i = y at hli' h2 HS2
      obtain ⟨z, hz⟩ : ∃ z : Nat, z = x * y := ⟨_, rfl⟩
      have hzz : (x : Int) * (y : Int) = (z : Int) := by rw [hz, Int.natCast_mul]
      have hzb : z ≤ 120000 := by rw [hz]; exact Nat.le_trans (Nat.mul_le_mul h1 h2) (by decide)
      have hzw : IntKind.i64.wrap (z : Int) = (z : Int) := IntWalk.i64_in _ (by omega)
      rw [← hz] at HS2
      clear hz
      go_wp2
      go_roundw
      case measure => simp [intOf]; omega
      case rel => exact ⟨i + 1, s + z, by omega, by omega, by go_num, by go_num, HS2, by trivial⟩
    · have hdl : decide ((i : Int) < (n : Int)) = false := decide_eq_false (by omega)
      obtain rfl : n = i := by omega
      go_wp2
      go_ret
      rw [← HS.out]
      exact ⟨rfl, rfl⟩
theorem least_is {W l : Nat → Nat} {n : Nat} (h : Hm.Opt W l n) (hW : ∀ k, k < n → 1 ≤ W k) (hn : 1 ≤ n) : ∀ r : Nat, (n = 1 → r = W 0) → (2 ≤ n → Hm.Best ((List.range n).map W) r) → Hm.ctot W l n = r := by
  intro r h1 h2
  by_cases e : n = 1
  · subst e
    rw [h1 rfl]
    have a := h.least 12 (fun _ => 1) (fun k hk => by omega) (by decide)
    have b := h.len 0 (by omega)
    have c := hW 0 (by omega)
    have e1 : Hm.ctot W l 1 = 0 + W 0 * l 0 := rfl
    have e2 : Hm.ctot W (fun _ => 1) 1 = 0 + W 0 * 1 := rfl
    rw [e1, e2, Nat.zero_add, Nat.zero_add, Nat.mul_one] at a
    rw [e1, Nat.zero_add]
    have d := Nat.mul_le_mul_left (W 0) b.1
    omega
  · exact h.best (h2 (by omega)) (by omega)
set_option maxHeartbeats 8000000 in
set_option maxRecDepth 100000 in
theorem treeSays_walk (A : Option Addr) (n c : Nat) (g : Nat → Int) (B : Option Addr) (m d : Nat) (l : Nat → Int) (w : World) (h : IRow w A n g) (hc : n ≤ c) (_ : n * 8 ≤ 140737488351232) (h2 : IRow w B m l) (hd : m ≤ d) (_ : m * 8 ≤ 140737488351232) :
    Calls Try.prog 3 #[.slice A n c, .slice B m d] w fun e w' => e = .returned (.bool true) ∧ Below w.heap.size w w' := by
  have hb0 := bl_new w (.cells #[.slice A n c] 22)
  have hcell0 : (w.alloc (.cells #[.slice A n c] 22)).cell? ⟨w.heap.size, 0, none⟩ = some (.slice A n c) := by simp
  have hsz0 : w.heap.size < (w.alloc (.cells #[.slice A n c] 22)).heap.size := by simp
  have H0 := hid (h.keep hb0)
  have L0 := hid (h2.keep hb0)
  have HB0 := hid hb0
  clear h h2 hb0
  go_enter Try.func3, Try.ntmps3
  go_wp2_with fail
  obtain ⟨Bw, hBw⟩ : ∃ Bw, Bw = w.heap.size := ⟨_, rfl⟩
  rw [← hBw] at hcell0 hsz0
  rw [← hBw]
  generalize w.alloc (.cells #[.slice A n c] 22) = w0 at hcell0 hsz0 H0 L0 HB0 ⊢
  clear hBw
  with_reducible refine (Lens_any _ H0.out hc).mono ?_
  rintro e w1 ⟨⟨A1, m1, c1, rfl, hc1, hr1, z1, f1⟩, hb1⟩
  have hcell1 := (hb1.cell (p := ⟨Bw, 0, none⟩) hsz0).trans hcell0
  have hsz1 := Nat.lt_of_lt_of_le hsz0 hb1.size
  have H1 := hid (H0.out.keep hb1)
  have L1 := hid (L0.out.keep hb1)
  have R1 := hid hr1
  have HB1 := hid (bl_then HB0.out hb1)
  clear hr1 hb1 H0 L0 HB0 hcell0 hsz0
  go_wp2_with fail
  with_reducible refine (Cost_any _ H1.out L1.out hc hd).mono ?_
  rintro e w2 ⟨rfl, hb2⟩
  have hcell2 := (hb2.cell (p := ⟨Bw, 0, none⟩) hsz1).trans hcell1
  have hsz2 := Nat.lt_of_lt_of_le hsz1 hb2.size
  have H2 := hid (H1.out.keep hb2)
  have L2 := hid (L1.out.keep hb2)
  have R2 := hid (R1.out.keep hb2)
  have HB2 := hid (bl_then HB1.out hb2)
  clear hb2 H1 L1 R1 HB1 hcell1 hsz1
  go_wp2_with fail
  with_reducible refine (TMake_any _ H2.out hc).mono ?_
  rintro e w3 ⟨⟨A3, m3, c3, rfl, hc3, hr3, z3, f3⟩, hb3⟩
  have hcell3 := (hb3.cell (p := ⟨Bw, 0, none⟩) hsz2).trans hcell2
  have hsz3 := Nat.lt_of_lt_of_le hsz2 hb3.size
  have H3 := hid (H2.out.keep hb3)
  have L3 := hid (L2.out.keep hb3)
  have R3 := hid (R2.out.keep hb3)
  have M3 := hid hr3
  have HB3 := hid (bl_then HB2.out hb3)
  clear hr3 hb3 H2 L2 R2 HB2 hcell2 hsz2
  go_wp2_with fail
  with_reducible refine (WeightErr_ok _ H3.out).mono ?_
  rintro e w4 ⟨rfl, rfl⟩
  go_wp2_with fail
  with_reducible refine (TCheck_any _ H3.out).mono ?_
  rintro e w4 ⟨rfl, hb4⟩
  have hcell4 := (hb4.cell (p := ⟨Bw, 0, none⟩) hsz3).trans hcell3
  have hsz4 := Nat.lt_of_lt_of_le hsz3 hb4.size
  have H4 := hid (H3.out.keep hb4)
  have L4 := hid (L3.out.keep hb4)
  have R4 := hid (R3.out.keep hb4)
  have M4 := hid (M3.out.keep hb4)
  have HB4 := hid (bl_then HB3.out hb4)
  clear hb4 H3 L3 R3 M3 HB3 hcell3 hsz3
  by_cases hE : Hm.wErr g n = 0
  · obtain rfl : m1 = n := f1 hE
    obtain rfl : m3 = m1 := f3 hE
    have hn := (Hm.wErr_zero.1 hE).1
    have HOp := hid (lensF_opt hE)
    have HWp := hid (Hm.ln_pos hE)
    have hler := lens_err hE
    have hlsu : lSum (fun k => ((lensF g m3 k : Nat) : Int)) m3 = ((Cm.tot (lensF g m3) m3 : Nat) : Int) := by unfold lSum; rw [if_pos hler, lens_ln]
    have HLn := hid (lens_ln g m3)
    have ht : Cm.tot (lensF g m3) m3 ≤ 4096 := HOp.out.fit
    have W4 : Hid (IRow w4 A m3 (fun k => ((Cm.ln g k : Nat) : Int))) := H4.out.congr fun k hk => (HWp.out k hk).2.2.symm
    have HLS := hid hlsu
    have HLE := hid hler
    have hE1 : Hm.tErr g m3 l m = if Cm.lErr l m ≠ 0 then Cm.lErr l m else if m3 ≠ m then 3 else 0 := by unfold Hm.tErr; rw [if_neg (by simpa using hE)]
    rw [hE]
    clear z1 f1 z3 f3 hlsu hler hE
    by_cases hl : Cm.lErr l m = 0
    · by_cases hmn : m3 = m
      · subst hmn
        have hT : Hm.tErr g m3 l m3 = 0 := by rw [hE1, if_neg (by simpa using hl), if_neg (by simp)]
        have hcost : Hm.tCost g m3 l m3 = ((Hm.ctot (Cm.ln g) (Cm.ln l) m3 : Nat) : Int) := by unfold Hm.tCost; rw [if_pos hT]
        have hlw : ∀ k, k < m3 → ((Cm.ln l k : Nat) : Int) = l k ∧ Cm.ln l k ≤ 12 := fun k hk => by
          have := (lErr_zero.1 hl).2 k hk
          unfold Cm.ln
          omega
        have hCl := cost_clo (d := d) (l := Cm.ln l) w4 hcell4 W4.out (L4.out.congr fun k hk => (hlw k hk).1.symm) hn (fun k hk => (HWp.out k hk).2.1) (fun k hk => (hlw k hk).2)
        rw [hT, hcost]
        clear hE1 hT hcost hlw
        generalize Hm.ctot (Cm.ln g) (Cm.ln l) m3 = cc at hCl ⊢
        go_wp2_with fail
        with_reducible refine (LensErr_ok _ L4.out).mono ?_
        rw [hl]
        rintro e w5 ⟨rfl, rfl⟩
        generalize lSum l m3 = su
        clear hl L4
        go_wp2_with fail
        with_reducible refine hCl.mono ?_
        rintro e w5 ⟨rfl, rfl⟩
        clear hCl
        have hLE2 := LensErr_ok (c := c1) w4 R4.out
        rw [HLS.out, HLE.out] at hLE2
        go_wp2_with fail
        with_reducible refine hLE2.mono ?_
        rintro e w6 ⟨rfl, rfl⟩
        clear hLE2 HLS HLE
        have HFit := hid ht
        generalize Cm.tot (lensF g m3) m3 = tt at ht ⊢
        have ht1 : decide ((4096 : Int) < (tt : Int)) = false := decide_eq_false (by omega)
        have ht2 : decide (4096 < tt) = false := decide_eq_false (by omega)
        have ht3 : ¬ 4096 < tt := by omega
        have hmm : ((m3 : Int) != (m3 : Int)) = false := by simp
        by_cases hz : m3 = 0
        · have hz1 : decide ((0 : Int) < (m3 : Int)) = false := decide_eq_false (by omega)
          have hz2 : decide (0 < m3) = false := decide_eq_false (by omega)
          have hz3 : ¬ 0 < m3 := by omega
          clear hz
          go_wp2
          go_quiet (fail)
          have RF := hid (R4.out.drewN nq)
          have MF : Hid (SRow (w4.drewN nq) A3 m3 (fun j => mkS (Cm.cw (lensF g m3) m3 j))) := M4.out
          have HBF := hid (bl_drewN HB4.out nq)
          generalize w4.drewN nq = wf at RF MF HBF ⊢
          clear R4 M4 HB4 H4 W4 hcell4 hsz4
          go_wp2_with fail
          with_reducible refine (CodesOf_ok (g := fun k => ((lensF g m3 k : Nat) : Int)) wf RF.out hn (fun j hj => (by have := HOp.out.len j hj; omega))).mono ?_
          rintro e w8 ⟨hh, hb8⟩
          rw [HLn.out] at hh
          rcases hh with ⟨_, rfl, hrow8⟩ | ⟨hgt, _⟩
          · have hS8 : SRow w8 (some ⟨wf.heap.size, 0, none⟩) m3 (fun j => mkS (Cm.cw (lensF g m3) m3 j)) := fun k hk => ⟨wf.heap.size, 0, rfl, hrow8.lt, by rw [Nat.zero_add]; exact hrow8.cell hk⟩
            have HS8 := hid hS8
            have M8 := hid (MF.out.keep hb8)
            have HB8 := hid (bl_then HBF.out hb8)
            clear hS8 hrow8 hb8 RF MF HBF
            go_wp2_with fail
            with_reducible refine (salike_any M8.out HS8.out (by unfold maxLen; omega) (by unfold maxLen; omega) true (by simp)).mono ?_
            rintro e w9 ⟨rfl, hd9⟩
            have HB9 := hid (HB8.out.trans (hd9.below _))
            clear hd9 HB8 M8 HS8
            go_wp2
            go_ret
            exact ⟨rfl, HB9.out⟩
          · exact absurd HFit.out (by omega)
        · have hz1 : (0 : Int) < (m3 : Int) := by omega
          have hz2 : 0 < m3 := by omega
          have HCl2 := hid (cost_clo (d := c1) (l := lensF g m3) w4.drew hcell4 W4.out.drew R4.out.drew hn (fun k hk => (HWp.out k hk).2.1) (fun k hk => (HOp.out.len k hk).2))
          have HLC := hid (LeastCost_ok (c := c) w4.drew W4.out.drew (by omega) hn (fun k hk => (HWp.out k hk).2.1))
          have HEq : Hid (∀ r : Nat, (m3 = 1 → r = Cm.ln g 0) → (2 ≤ m3 → Hm.Best ((List.range m3).map (Cm.ln g)) r) → Hm.ctot (Cm.ln g) (lensF g m3) m3 = r) := least_is HOp.out (fun k hk => (HWp.out k hk).1) (by omega)
          generalize Hm.ctot (Cm.ln g) (lensF g m3) m3 = cl at HCl2 HEq
          go_wp2
          go_region_held3 (fun W => W.cell? ⟨Bw, 0, none⟩ = some (.slice A m3 c)) (first | exact hcell4 | assumption) (first | (go_at_call 12; (with_reducible refine HCl2.out.mono ?_); rintro e w7 ⟨rfl, rfl⟩) | (go_at_call 14; (with_reducible refine HLC.out.mono ?_); rintro e w7 ⟨r, rfl, hr1, hr2, hb7⟩; have hrr := HEq.out r hr1 hr2; subst hrr; have hcell7 := (hb7.cell (p := ⟨Bw, 0, none⟩) hsz4).trans hcell4))
          have RF := hid (R4.out.drew.keep hb7)
          have MF : Hid (SRow w7 A3 m3 (fun j => mkS (Cm.cw (lensF g m3) m3 j))) := SRow.keep (w := w4.drew) M4.out hb7
          have HBF := hid (bl_then HB4.out (bl_of_drewN (n := 1) hb7))
          clear hr1 hr2 hb7 hcell7 HEq HCl2 HLC hz
          clear R4 M4 HB4 H4 W4 hcell4 hsz4
          go_wp2_with fail
          with_reducible refine (CodesOf_ok (g := fun k => ((lensF g m3 k : Nat) : Int)) w7 RF.out hn (fun j hj => (by have := HOp.out.len j hj; omega))).mono ?_
          rintro e w8 ⟨hh, hb8⟩
          rw [HLn.out] at hh
          rcases hh with ⟨_, rfl, hrow8⟩ | ⟨hgt, _⟩
          · have hS8 : SRow w8 (some ⟨w7.heap.size, 0, none⟩) m3 (fun j => mkS (Cm.cw (lensF g m3) m3 j)) := fun k hk => ⟨w7.heap.size, 0, rfl, hrow8.lt, by rw [Nat.zero_add]; exact hrow8.cell hk⟩
            have HS8 := hid hS8
            have M8 := hid (MF.out.keep hb8)
            have HB8 := hid (bl_then HBF.out hb8)
            clear hS8 hrow8 hb8 RF MF HBF
            go_wp2_with fail
            with_reducible refine (salike_any M8.out HS8.out (by unfold maxLen; omega) (by unfold maxLen; omega) true (by simp)).mono ?_
            rintro e w9 ⟨rfl, hd9⟩
            have HB9 := hid (HB8.out.trans (hd9.below _))
            clear hd9 HB8 M8 HS8
            go_wp2
            go_ret
            exact ⟨rfl, HB9.out⟩
          · exact absurd HFit.out (by omega)
      · have hT : Hm.tErr g m3 l m = 3 := by rw [hE1, if_neg (by simpa using hl), if_pos hmn]
        have hcost : Hm.tCost g m3 l m = 0 := by unfold Hm.tCost; rw [if_neg (by rw [hT]; decide)]
        have hmn' : ((m : Int) != (m3 : Int)) = true := bne_iff_ne.2 (by omega)
        rw [hT, hcost]
        clear hE1 hT hcost
        go_wp2_with fail
        with_reducible refine (LensErr_ok _ L4.out).mono ?_
        rw [hl]
        rintro e w5 ⟨rfl, rfl⟩
        generalize lSum l m = su
        clear hl L4
        have hLE2 := LensErr_ok (c := c1) w4 R4.out
        rw [HLS.out, HLE.out] at hLE2
        go_wp2_with fail
        with_reducible refine hLE2.mono ?_
        rintro e w6 ⟨rfl, rfl⟩
        clear hLE2 HLS HLE
        have HFit := hid ht
        generalize Cm.tot (lensF g m3) m3 = tt at ht ⊢
        have ht1 : decide ((4096 : Int) < (tt : Int)) = false := decide_eq_false (by omega)
        have ht2 : decide (4096 < tt) = false := decide_eq_false (by omega)
        have ht3 : ¬ 4096 < tt := by omega
        have hmm : ((m3 : Int) != (m3 : Int)) = false := by simp
        by_cases hz : m3 = 0
        · have hz1 : decide ((0 : Int) < (m3 : Int)) = false := decide_eq_false (by omega)
          have hz2 : decide (0 < m3) = false := decide_eq_false (by omega)
          have hz3 : ¬ 0 < m3 := by omega
          clear hz
          go_wp2
          go_quiet (fail)
          have RF := hid (R4.out.drewN nq)
          have MF : Hid (SRow (w4.drewN nq) A3 m3 (fun j => mkS (Cm.cw (lensF g m3) m3 j))) := M4.out
          have HBF := hid (bl_drewN HB4.out nq)
          generalize w4.drewN nq = wf at RF MF HBF ⊢
          clear R4 M4 HB4 H4 W4 hcell4 hsz4
          go_wp2_with fail
          with_reducible refine (CodesOf_ok (g := fun k => ((lensF g m3 k : Nat) : Int)) wf RF.out hn (fun j hj => (by have := HOp.out.len j hj; omega))).mono ?_
          rintro e w8 ⟨hh, hb8⟩
          rw [HLn.out] at hh
          rcases hh with ⟨_, rfl, hrow8⟩ | ⟨hgt, _⟩
          · have hS8 : SRow w8 (some ⟨wf.heap.size, 0, none⟩) m3 (fun j => mkS (Cm.cw (lensF g m3) m3 j)) := fun k hk => ⟨wf.heap.size, 0, rfl, hrow8.lt, by rw [Nat.zero_add]; exact hrow8.cell hk⟩
            have HS8 := hid hS8
            have M8 := hid (MF.out.keep hb8)
            have HB8 := hid (bl_then HBF.out hb8)
            clear hS8 hrow8 hb8 RF MF HBF
            go_wp2_with fail
            with_reducible refine (salike_any M8.out HS8.out (by unfold maxLen; omega) (by unfold maxLen; omega) true (by simp)).mono ?_
            rintro e w9 ⟨rfl, hd9⟩
            have HB9 := hid (HB8.out.trans (hd9.below _))
            clear hd9 HB8 M8 HS8
            go_wp2
            go_ret
            exact ⟨rfl, HB9.out⟩
          · exact absurd HFit.out (by omega)
        · have hz1 : (0 : Int) < (m3 : Int) := by omega
          have hz2 : 0 < m3 := by omega
          have HCl2 := hid (cost_clo (d := c1) (l := lensF g m3) w4.drew hcell4 W4.out.drew R4.out.drew hn (fun k hk => (HWp.out k hk).2.1) (fun k hk => (HOp.out.len k hk).2))
          have HLC := hid (LeastCost_ok (c := c) w4.drew W4.out.drew (by omega) hn (fun k hk => (HWp.out k hk).2.1))
          have HEq : Hid (∀ r : Nat, (m3 = 1 → r = Cm.ln g 0) → (2 ≤ m3 → Hm.Best ((List.range m3).map (Cm.ln g)) r) → Hm.ctot (Cm.ln g) (lensF g m3) m3 = r) := least_is HOp.out (fun k hk => (HWp.out k hk).1) (by omega)
          generalize Hm.ctot (Cm.ln g) (lensF g m3) m3 = cl at HCl2 HEq
          go_wp2
          go_region_held3 (fun W => W.cell? ⟨Bw, 0, none⟩ = some (.slice A m3 c)) (first | exact hcell4 | assumption) (first | (go_at_call 12; (with_reducible refine HCl2.out.mono ?_); rintro e w7 ⟨rfl, rfl⟩) | (go_at_call 14; (with_reducible refine HLC.out.mono ?_); rintro e w7 ⟨r, rfl, hr1, hr2, hb7⟩; have hrr := HEq.out r hr1 hr2; subst hrr; have hcell7 := (hb7.cell (p := ⟨Bw, 0, none⟩) hsz4).trans hcell4))
          have RF := hid (R4.out.drew.keep hb7)
          have MF : Hid (SRow w7 A3 m3 (fun j => mkS (Cm.cw (lensF g m3) m3 j))) := SRow.keep (w := w4.drew) M4.out hb7
          have HBF := hid (bl_then HB4.out (bl_of_drewN (n := 1) hb7))
          clear hr1 hr2 hb7 hcell7 HEq HCl2 HLC hz
          clear R4 M4 HB4 H4 W4 hcell4 hsz4
          go_wp2_with fail
          with_reducible refine (CodesOf_ok (g := fun k => ((lensF g m3 k : Nat) : Int)) w7 RF.out hn (fun j hj => (by have := HOp.out.len j hj; omega))).mono ?_
          rintro e w8 ⟨hh, hb8⟩
          rw [HLn.out] at hh
          rcases hh with ⟨_, rfl, hrow8⟩ | ⟨hgt, _⟩
          · have hS8 : SRow w8 (some ⟨w7.heap.size, 0, none⟩) m3 (fun j => mkS (Cm.cw (lensF g m3) m3 j)) := fun k hk => ⟨w7.heap.size, 0, rfl, hrow8.lt, by rw [Nat.zero_add]; exact hrow8.cell hk⟩
            have HS8 := hid hS8
            have M8 := hid (MF.out.keep hb8)
            have HB8 := hid (bl_then HBF.out hb8)
            clear hS8 hrow8 hb8 RF MF HBF
            go_wp2_with fail
            with_reducible refine (salike_any M8.out HS8.out (by unfold maxLen; omega) (by unfold maxLen; omega) true (by simp)).mono ?_
            rintro e w9 ⟨rfl, hd9⟩
            have HB9 := hid (HB8.out.trans (hd9.below _))
            clear hd9 HB8 M8 HS8
            go_wp2
            go_ret
            exact ⟨rfl, HB9.out⟩
          · exact absurd HFit.out (by omega)
    · have hT : Hm.tErr g m3 l m = Cm.lErr l m := by rw [hE1, if_pos (by simpa using hl)]
      have hcost : Hm.tCost g m3 l m = 0 := by unfold Hm.tCost; rw [if_neg (by rw [hT]; exact hl)]
      have hl1 : (Cm.lErr l m != 0) = true := bne_iff_ne.2 hl
      have hl2 : (Cm.lErr l m == 0) = false := beq_eq_false_iff_ne.2 hl
      have hl3 : (Cm.lErr l m != Cm.lErr l m) = false := by simp
      rw [hT, hcost]
      clear hE1 hT hcost
      go_wp2_with fail
      with_reducible refine (LensErr_ok _ L4.out).mono ?_
      rintro e w5 ⟨rfl, rfl⟩
      generalize lSum l m = su
      generalize Cm.lErr l m = x at hl hl1 hl2 hl3
      clear L4
      have hLE2 := LensErr_ok (c := c1) w4 R4.out
      rw [HLS.out, HLE.out] at hLE2
      go_wp2_with fail
      with_reducible refine hLE2.mono ?_
      rintro e w6 ⟨rfl, rfl⟩
      clear hLE2 HLS HLE
      have HFit := hid ht
      generalize Cm.tot (lensF g m3) m3 = tt at ht ⊢
      have ht1 : decide ((4096 : Int) < (tt : Int)) = false := decide_eq_false (by omega)
      have ht2 : decide (4096 < tt) = false := decide_eq_false (by omega)
      have ht3 : ¬ 4096 < tt := by omega
      have hmm : ((m3 : Int) != (m3 : Int)) = false := by simp
      by_cases hz : m3 = 0
      · have hz1 : decide ((0 : Int) < (m3 : Int)) = false := decide_eq_false (by omega)
        have hz2 : decide (0 < m3) = false := decide_eq_false (by omega)
        have hz3 : ¬ 0 < m3 := by omega
        clear hz
        go_wp2
        go_quiet (fail)
        have RF := hid (R4.out.drewN nq)
        have MF : Hid (SRow (w4.drewN nq) A3 m3 (fun j => mkS (Cm.cw (lensF g m3) m3 j))) := M4.out
        have HBF := hid (bl_drewN HB4.out nq)
        generalize w4.drewN nq = wf at RF MF HBF ⊢
        clear R4 M4 HB4 H4 W4 hcell4 hsz4
        go_wp2_with fail
        with_reducible refine (CodesOf_ok (g := fun k => ((lensF g m3 k : Nat) : Int)) wf RF.out hn (fun j hj => (by have := HOp.out.len j hj; omega))).mono ?_
        rintro e w8 ⟨hh, hb8⟩
        rw [HLn.out] at hh
        rcases hh with ⟨_, rfl, hrow8⟩ | ⟨hgt, _⟩
        · have hS8 : SRow w8 (some ⟨wf.heap.size, 0, none⟩) m3 (fun j => mkS (Cm.cw (lensF g m3) m3 j)) := fun k hk => ⟨wf.heap.size, 0, rfl, hrow8.lt, by rw [Nat.zero_add]; exact hrow8.cell hk⟩
          have HS8 := hid hS8
          have M8 := hid (MF.out.keep hb8)
          have HB8 := hid (bl_then HBF.out hb8)
          clear hS8 hrow8 hb8 RF MF HBF
          go_wp2_with fail
          with_reducible refine (salike_any M8.out HS8.out (by unfold maxLen; omega) (by unfold maxLen; omega) true (by simp)).mono ?_
          rintro e w9 ⟨rfl, hd9⟩
          have HB9 := hid (HB8.out.trans (hd9.below _))
          clear hd9 HB8 M8 HS8
          go_wp2
          go_ret
          exact ⟨rfl, HB9.out⟩
        · exact absurd HFit.out (by omega)
      · have hz1 : (0 : Int) < (m3 : Int) := by omega
        have hz2 : 0 < m3 := by omega
        have HCl2 := hid (cost_clo (d := c1) (l := lensF g m3) w4.drew hcell4 W4.out.drew R4.out.drew hn (fun k hk => (HWp.out k hk).2.1) (fun k hk => (HOp.out.len k hk).2))
        have HLC := hid (LeastCost_ok (c := c) w4.drew W4.out.drew (by omega) hn (fun k hk => (HWp.out k hk).2.1))
        have HEq : Hid (∀ r : Nat, (m3 = 1 → r = Cm.ln g 0) → (2 ≤ m3 → Hm.Best ((List.range m3).map (Cm.ln g)) r) → Hm.ctot (Cm.ln g) (lensF g m3) m3 = r) := least_is HOp.out (fun k hk => (HWp.out k hk).1) (by omega)
        generalize Hm.ctot (Cm.ln g) (lensF g m3) m3 = cl at HCl2 HEq
        go_wp2
        go_region_held3 (fun W => W.cell? ⟨Bw, 0, none⟩ = some (.slice A m3 c)) (first | exact hcell4 | assumption) (first | (go_at_call 12; (with_reducible refine HCl2.out.mono ?_); rintro e w7 ⟨rfl, rfl⟩) | (go_at_call 14; (with_reducible refine HLC.out.mono ?_); rintro e w7 ⟨r, rfl, hr1, hr2, hb7⟩; have hrr := HEq.out r hr1 hr2; subst hrr; have hcell7 := (hb7.cell (p := ⟨Bw, 0, none⟩) hsz4).trans hcell4))
        have RF := hid (R4.out.drew.keep hb7)
        have MF : Hid (SRow w7 A3 m3 (fun j => mkS (Cm.cw (lensF g m3) m3 j))) := SRow.keep (w := w4.drew) M4.out hb7
        have HBF := hid (bl_then HB4.out (bl_of_drewN (n := 1) hb7))
        clear hr1 hr2 hb7 hcell7 HEq HCl2 HLC hz
        clear R4 M4 HB4 H4 W4 hcell4 hsz4
        go_wp2_with fail
        with_reducible refine (CodesOf_ok (g := fun k => ((lensF g m3 k : Nat) : Int)) w7 RF.out hn (fun j hj => (by have := HOp.out.len j hj; omega))).mono ?_
        rintro e w8 ⟨hh, hb8⟩
        rw [HLn.out] at hh
        rcases hh with ⟨_, rfl, hrow8⟩ | ⟨hgt, _⟩
        · have hS8 : SRow w8 (some ⟨w7.heap.size, 0, none⟩) m3 (fun j => mkS (Cm.cw (lensF g m3) m3 j)) := fun k hk => ⟨w7.heap.size, 0, rfl, hrow8.lt, by rw [Nat.zero_add]; exact hrow8.cell hk⟩
          have HS8 := hid hS8
          have M8 := hid (MF.out.keep hb8)
          have HB8 := hid (bl_then HBF.out hb8)
          clear hS8 hrow8 hb8 RF MF HBF
          go_wp2_with fail
          with_reducible refine (salike_any M8.out HS8.out (by unfold maxLen; omega) (by unfold maxLen; omega) true (by simp)).mono ?_
          rintro e w9 ⟨rfl, hd9⟩
          have HB9 := hid (HB8.out.trans (hd9.below _))
          clear hd9 HB8 M8 HS8
          go_wp2
          go_ret
          exact ⟨rfl, HB9.out⟩
        · exact absurd HFit.out (by omega)
  · obtain rfl : m1 = 0 := z1 hE
    obtain rfl : m3 = 0 := z3 hE
    have hT : Hm.tErr g n l m = Hm.wErr g n := by unfold Hm.tErr; rw [if_pos (by simpa using hE)]
    have hcost : Hm.tCost g n l m = 0 := by unfold Hm.tCost; rw [if_neg (by rw [hT]; exact hE)]
    have hE1 : (Hm.wErr g n != 0) = true := bne_iff_ne.2 hE
    have hE2 : (Hm.wErr g n != Hm.wErr g n) = false := by simp
    have hE3 : (Hm.wErr g n == Hm.wErr g n) = true := by simp
    rw [hT, hcost]
    clear z1 f1 z3 f3 hT hcost H4 L4 R4 M4
    generalize Hm.wErr g n = x at hE hE1 hE2 hE3
    go_wp2
    go_ret
    exact ⟨rfl, HB4.out⟩
end Go.Proofs.Ytppochjhodafdaa
