
/-
quillkeep.MergeClash: whatever a number and two edits: it answers true.
-/
import Derived.Test.YtphbloibldljjaaMerges
import Derived.Test.YtphbloibldljjaaRefCl
import Derived.Deep.RegionHeld3
import Derived.Deep.Cut
import Derived.Deep.CutRange
namespace Go.Proofs.Ytphbloibldljjaa
open Go.RowKit

def mgC : Es.Ev := ⟨1, 2, ⟨#[]⟩⟩
def mgD : Es.Ev := ⟨2, 0, ⟨#[120]⟩⟩
theorem mgCD_cls : Es.Cls [mgC] [mgD] := ⟨mgC, by simp, mgD, by simp, Es.cl_iff.1 (by decide +kernel)⟩
theorem nine_no {N : Nat} {L : List Es.Ev} (h : Es.Ch N (-1) L) : Es.eErr (N : Int) L ≠ 9 := by
  unfold Es.eErr
  rw [if_pos (Es.row_zero.2 h)]
  repeat' split
  all_goals decide
theorem cls_one {x y : Es.Ev} : Es.Cls [x] [y] ↔ Es.cl x y = true := by
  rw [Es.cl_iff]
  constructor
  · rintro ⟨a, ha, b, hb, h⟩
    rw [List.mem_singleton] at ha hb
    subst ha; subst hb
    exact h
  · exact fun h => ⟨x, by simp, y, by simp, h⟩
theorem BoIs.nine {N : Nat} {x y : Es.Ev} {l : List Es.Ev} {e : Int} (h : BoIs N [x] [y] l e) (hx : Es.Ch N (-1) [x]) (hy : Es.Ch N (-1) [y]) : (e == 9) = Es.cl x y := by
  rcases h with ⟨h1, _, h3⟩ | ⟨h1, L, h2, h3⟩
  · rw [h3, cls_one.1 h1]; rfl
  · have hc := h2.ch hx hy h1
    have h9 : e ≠ 9 := by
      rcases h3 with ⟨_, h4, _⟩ | ⟨_, h4, _⟩
      · rw [h4]; exact nine_no hc
      · rw [h4]; decide
    rw [beq_eq_false_iff_ne.2 h9]
    exact (Bool.eq_false_iff.2 fun c => h1 (cls_one.2 c)).symm
theorem bn_of_ {N : Nat} {L : List Es.Ev} (h : Es.eErr N L = 0) {x : Es.Ev} (hx : x ∈ L) : Bn x := by
  obtain ⟨hc, h2, _, _⟩ := Es.err_ch h
  have := Es.ch_mem hc hx
  unfold Bn
  omega
set_option maxHeartbeats 4000000 in
theorem mergeClash_walk (N : Int) (x y : Es.Ev) (w : World) (hx : EvWf x) (hy : EvWf y) (hN : -9223372036854775808 ≤ N ∧ N ≤ 9223372036854775807) :
    Calls Try.prog 6 #[.int .i64 N, evV x, evV y] w fun e w' => e = .returned (.bool true) ∧ Below w.heap.size w w' := by
  unfold evV
  have HN : Hid (I64 N) := hN
  have HX := hid hx
  have HY := hid hy
  obtain ⟨w0, hw0⟩ : ∃ w0, w0 = (w.alloc (.cells #[.int .i64 x.a, .int .i64 x.d, .string x.s] 30)).alloc (.cells #[.int .i64 y.a, .int .i64 y.d, .string y.s] 30) := ⟨_, rfl⟩
  have hbox := two_boxes w x y 30
  have hb0 := two_below w x y 30
  have hz0 : w.heap.size + 1 < ((w.alloc (.cells #[.int .i64 x.a, .int .i64 x.d, .string x.s] 30)).alloc (.cells #[.int .i64 y.a, .int .i64 y.d, .string y.s] 30)).heap.size := by simp
  rw [← hw0] at hbox hb0 hz0
  have HBOX := hid hbox
  have HB0 := hid hb0
  have hC : EvIn ((w0.alloc (.cells #[.int .i64 1, .int .i64 2, .string ⟨#[]⟩] 30)).alloc (.cells #[.int .i64 2, .int .i64 0, .string ⟨#[120]⟩] 30)) (some ⟨w0.heap.size, 0, none⟩) 1 (fun _ => mgC) := ⟨(EvRow.one w0 mgC 30 _ rfl).keep (bl_new _ _), fun _ _ => wf_lit mgC (by decide +kernel), by decide⟩
  have hD : EvIn ((w0.alloc (.cells #[.int .i64 1, .int .i64 2, .string ⟨#[]⟩] 30)).alloc (.cells #[.int .i64 2, .int .i64 0, .string ⟨#[120]⟩] 30)) (some ⟨w0.heap.size + 1, 0, none⟩) 1 (fun _ => mgD) := ⟨EvRow.one _ mgD 30 _ (by simp), fun _ _ => wf_lit mgD (by decide +kernel), by decide⟩
  have HC := hid hC
  have HD := hid hD
  have HB1 : Hid (Below w0.heap.size w0 ((w0.alloc (.cells #[.int .i64 1, .int .i64 2, .string ⟨#[]⟩] 30)).alloc (.cells #[.int .i64 2, .int .i64 0, .string ⟨#[120]⟩] 30))) := bl_then (bl_new _ _) (bl_new _ _)
  have h5 : I64 5 := by unfold I64; omega
  have ec : Es.eErr ((5 : Nat) : Int) [mgC] = 0 := by decide +kernel
  have ed : Es.eErr ((5 : Nat) : Int) [mgD] = 0 := by decide +kernel
  obtain ⟨P, hP⟩ : ∃ P, P = w.heap.size := ⟨_, rfl⟩
  rw [← hP] at HBOX hz0
  have HPW := hid hP
  have hs0 : w0.heap.size = P + 1 + 1 := by rw [hw0, hP]; simp
  rw [hs0] at HC HD
  clear hC hD hbox hb0 hx hy hN hs0
  go_enter Try.func6, Try.ntmps6
  go_wp2_with fail
  rw [← hw0, ← hP]
  clear hw0 hP
  with_reducible refine (Both_any 5 _ HC.out HD.out h5).mono ?_
  rintro e w1 ⟨C, c, l, z, rfl, hlc, hl, hr, hb1⟩
  have hl9 : z = 9 := ((hl.ok (mg_zero.2 ⟨ec, ed⟩)).same (m := []) (y := 9) (.inl ⟨mgCD_cls, rfl, rfl⟩)).2
  subst hl9
  have HB2 := hid (bl_then HB1.out hb1)
  clear hl hr hb1 HC HD HB1 ec ed h5
  go_wp2_with fail
  with_reducible refine (merges_ok _).mono ?_
  rintro e w2 ⟨rfl, hb2⟩
  have HB2 := hid (bl_then HB2.out hb2)
  clear hb2
  have KC : ∀ W, Below w0.heap.size w0 W → W.cell? ⟨P, 0, none⟩ = some (.int .i64 x.a) ∧ W.cell? ⟨P, 1, none⟩ = some (.int .i64 x.d) ∧ W.cell? ⟨P, 2, none⟩ = some (.string x.s) ∧ W.cell? ⟨P + 1, 0, none⟩ = some (.int .i64 y.a) ∧ W.cell? ⟨P + 1, 1, none⟩ = some (.int .i64 y.d) ∧ W.cell? ⟨P + 1, 2, none⟩ = some (.string y.s) := fun W hW =>
    ⟨(hW.cell (p := ⟨P, 0, none⟩) (by show P < _; omega)).trans HBOX.out.1, (hW.cell (p := ⟨P, 1, none⟩) (by show P < _; omega)).trans HBOX.out.2.1, (hW.cell (p := ⟨P, 2, none⟩) (by show P < _; omega)).trans HBOX.out.2.2.1, (hW.cell (p := ⟨P + 1, 0, none⟩) (by show P + 1 < _; omega)).trans HBOX.out.2.2.2.1, (hW.cell (p := ⟨P + 1, 1, none⟩) (by show P + 1 < _; omega)).trans HBOX.out.2.2.2.2.1, (hW.cell (p := ⟨P + 1, 2, none⟩) (by show P + 1 < _; omega)).trans HBOX.out.2.2.2.2.2⟩
  have HKC := hid KC
  clear KC
  obtain ⟨x0, x1, x2, y0, y1, y2⟩ := HKC.out _ HB2.out
  go_wp2_with fail
  go_cut [9, 10] from 30 to 34 (fun p q wx => ∃ b1 b2 : Nat, p = .slice (some ⟨b1, 0, none⟩) 1 1 ∧ q = .slice (some ⟨b2, 0, none⟩) 1 1 ∧ Hid (EvRow wx (some ⟨b1, 0, none⟩) 1 (fun _ => x)) ∧ Hid (EvRow wx (some ⟨b2, 0, none⟩) 1 (fun _ => y)) ∧ Hid (Below w0.heap.size w0 wx))
  case first =>
    have HA : Hid (∀ o, Below w2.heap.size w2 (w2.alloc o).drew) := fun o => bl_drewN (bl_new w2 o) 1
    have HAA : Hid (∀ o p, Below w2.heap.size w2 ((w2.alloc o).alloc p).drew) := fun o p => bl_drewN (bl_then (bl_new w2 o) (bl_new _ p)) 1
    have R1 : Hid (EvRow ((w2.alloc (.cells #[.int .i64 x.a, .int .i64 x.d, .string x.s] 30)).alloc (.cells #[.int .i64 y.a, .int .i64 y.d, .string y.s] 30)).drew (some ⟨w2.heap.size, 0, none⟩) 1 (fun _ => x)) := (EvRow.one w2 x 30 _ rfl).keep (bl_drewN (bl_new _ _) 1)
    have R2 : Hid (EvRow ((w2.alloc (.cells #[.int .i64 x.a, .int .i64 x.d, .string x.s] 30)).alloc (.cells #[.int .i64 y.a, .int .i64 y.d, .string y.s] 30)).drew (some ⟨w2.heap.size + 1, 0, none⟩) 1 (fun _ => y)) := EvRow.one (w2.alloc (.cells #[.int .i64 x.a, .int .i64 x.d, .string x.s] 30)) y 30 _ (by simp)
    have R3 : Hid (EvRow ((w2.alloc (.cells #[.int .i64 y.a, .int .i64 y.d, .string y.s] 30)).alloc (.cells #[.int .i64 x.a, .int .i64 x.d, .string x.s] 30)).drew (some ⟨w2.heap.size + 1, 0, none⟩) 1 (fun _ => x)) := EvRow.one (w2.alloc (.cells #[.int .i64 y.a, .int .i64 y.d, .string y.s] 30)) x 30 _ (by simp)
    have R4 : Hid (EvRow ((w2.alloc (.cells #[.int .i64 y.a, .int .i64 y.d, .string y.s] 30)).alloc (.cells #[.int .i64 x.a, .int .i64 x.d, .string x.s] 30)).drew (some ⟨w2.heap.size, 0, none⟩) 1 (fun _ => y)) := (EvRow.one w2 y 30 _ rfl).keep (bl_drewN (bl_new _ _) 1)
    go_region_held3 (fun W => W.cell? ⟨P, 0, none⟩ = some (.int .i64 x.a) ∧ W.cell? ⟨P, 1, none⟩ = some (.int .i64 x.d) ∧ W.cell? ⟨P, 2, none⟩ = some (.string x.s) ∧ W.cell? ⟨P + 1, 0, none⟩ = some (.int .i64 y.a) ∧ W.cell? ⟨P + 1, 1, none⟩ = some (.int .i64 y.d) ∧ W.cell? ⟨P + 1, 2, none⟩ = some (.string y.s)) (first | exact ⟨x0, x1, x2, y0, y1, y2⟩ | exact HKC.out _ (bl_then HB2.out (HA.out _)) | exact HKC.out _ (bl_then HB2.out (HAA.out _ _)) | (trace_state; fail)) (first | fail)
    all_goals (go_wp2_with fail)
    all_goals go_meet
    all_goals first
      | exact ⟨_, _, rfl, rfl, R1, R2, bl_then HB2.out (HAA.out _ _)⟩
      | exact ⟨_, _, rfl, rfl, R3, R4, bl_then HB2.out (HAA.out _ _)⟩
  case rest =>
    obtain ⟨b1, b2, rfl, rfl, HR1, HR2, HB3⟩ := hcut
    have hIx : EvIn wc (some ⟨b1, 0, none⟩) 1 (fun _ => x) := ⟨HR1.out, fun _ _ => HX.out, by decide⟩
    have hIy : EvIn wc (some ⟨b2, 0, none⟩) 1 (fun _ => y) := ⟨HR2.out, fun _ _ => HY.out, by decide⟩
    have HIX := hid hIx
    have HIY := hid hIy
    clear hIx hIy HR1 HR2 x0 x1 x2 y0 y1 y2
    have ex1 : el (fun _ => x) 1 = [x] := rfl
    have ey1 : el (fun _ => y) 1 = [y] := rfl
    go_wp2_with fail
    with_reducible refine (Both_any N _ HIX.out HIY.out HN.out).mono ?_
    rintro e w3 ⟨C2, c2, l2, z, rfl, hlc2, hl2, hr2, hb2⟩
    rw [ex1, ey1] at hl2
    have HB3 := hid (bl_then HB3.out hb2)
    have HIX := hid (HIX.out.keep hb2)
    have HIY := hid (HIY.out.keep hb2)
    have HL2 := hid hl2
    clear hl2 hr2 hb2
    go_wp2_with fail
    with_reducible refine (Both_any N _ HIY.out HIX.out HN.out).mono ?_
    rintro e w4 ⟨C3, c3, l3, t, rfl, hlc3, hl3, hr3, hb2⟩
    rw [ex1, ey1] at hl3
    have HB3 := hid (bl_then HB3.out hb2)
    have HIX := hid (HIX.out.keep hb2)
    have HIY := hid (HIY.out.keep hb2)
    have HL3 := hid hl3
    have HN1 := hid HN.out.1
    have HN2 := hid HN.out.2
    clear hl3 hr3 hb2
    go_wp2_with fail
    with_reducible refine (Check_any N _ HIX.out.row HIX.out.wf HIX.out.len HN1.out HN2.out).mono ?_
    rintro e w5 ⟨he, hb2⟩
    rw [ex1] at he
    have HB3 := hid (bl_then HB3.out hb2)
    have HIX := hid (HIX.out.keep hb2)
    have HIY := hid (HIY.out.keep hb2)
    clear hb2
    by_cases ha : Es.eErr N [x] = 0
    · rw [ha] at he
      subst he
      go_wp2_with fail
      with_reducible refine (Check_any N _ HIY.out.row HIY.out.wf HIY.out.len HN1.out HN2.out).mono ?_
      rintro e w6 ⟨he, hb2⟩
      rw [ey1] at he
      have HB3 := hid (bl_then HB3.out hb2)
      clear hb2 ex1 ey1
      by_cases hb : Es.eErr N [y] = 0
      · rw [hb] at he
        subst he
        obtain ⟨q, rfl, _, _⟩ := err_nat ha
        have hbo := HL2.out.ok (mg_zero.2 ⟨ha, hb⟩)
        have hbk := HL3.out.ok (mg_zero.2 ⟨hb, ha⟩)
        rw [Int.toNat_natCast] at hbo hbk
        obtain rfl : z = t := (hbo.symm.same hbk).2
        have h9 := hbo.nine (Es.err_ch ha).1 (Es.err_ch hb).1
        obtain ⟨a1, a2, a3, a4⟩ := bn_of_ ha (x := x) (by simp)
        obtain ⟨b1', b2', b3, b4⟩ := bn_of_ hb (x := y) (by simp)
        have w1' : IntKind.i64.wrap (y.a + y.d) = y.a + y.d := IntWalk.i64_in _ (by omega)
        have w2' : IntKind.i64.wrap (x.a + x.d) = x.a + x.d := IntWalk.i64_in _ (by omega)
        have hsm := evB_sm x y
        have hcl : Es.cl x y = (!Es.sm x y && decide (x.a ≤ y.a + y.d) && decide (y.a ≤ x.a + x.d)) := rfl
        rw [← h9, ← hsm] at hcl
        obtain ⟨x0, x1, x2, y0, y1, y2⟩ := HKC.out _ HB3.out
        have hq := ev_eql
        have hgd := ev_guard
        have HCL := hid hcl
        have HB9 := hid (bl_then HB0.out HB3.out)
        have hzz : (z == z) = true := by simp
        clear hcl h9 hsm hbo hbk HL2 HL3 ha hb a1 a2 a3 a4 b1' b2' b3 b4
        by_cases k1 : evB x.a x.d x.s y.a y.d y.s = true
        · have hz9 : (z == 9) = false := by rw [HCL.out, k1]; rfl
          clear HCL
          go_wp2
          go_ret
          exact ⟨rfl, HB9.out⟩
        · have k1 := Bool.eq_false_iff.2 k1
          by_cases k2 : x.a ≤ y.a + y.d
          · have k2' : decide (y.a + y.d < x.a) = false := decide_eq_false (by omega)
            by_cases k3 : y.a ≤ x.a + x.d
            · have k3' : decide (x.a + x.d < y.a) = false := decide_eq_false (by omega)
              have hz9 : (z == 9) = true := by rw [HCL.out, k1, decide_eq_true k2, decide_eq_true k3]; rfl
              clear HCL k2 k3
              go_wp2
              go_ret
              exact ⟨rfl, HB9.out⟩
            · have k3' : decide (x.a + x.d < y.a) = true := decide_eq_true (by omega)
              have hz9 : (z == 9) = false := by rw [HCL.out, k1, decide_eq_true k2, decide_eq_false k3]; rfl
              clear HCL k2 k3
              go_wp2
              go_ret
              exact ⟨rfl, HB9.out⟩
          · have k2' : decide (y.a + y.d < x.a) = true := decide_eq_true (by omega)
            have hz9 : (z == 9) = false := by rw [HCL.out, k1, decide_eq_false k2]; rfl
            clear HCL k2
            go_wp2
            go_ret
            exact ⟨rfl, HB9.out⟩
      · have hz : z ≠ 0 := fun c => hb (mg_zero.1 (HL2.out.good c)).2
        have ht : t ≠ 0 := fun c => hb (mg_zero.1 (HL3.out.good c)).1
        obtain ⟨r, hr⟩ : ∃ r, r = Es.eErr N [y] := ⟨_, rfl⟩
        rw [← hr] at he hb
        subst he
        have hrr : (r != 0) = true := bne_iff_ne.2 hb
        have hzz : (z != 0) = true := bne_iff_ne.2 hz
        have htt : (t != 0) = true := bne_iff_ne.2 ht
        have HB9 := hid (bl_then HB0.out HB3.out)
        clear HL2 HL3 hr hb hz ht ha
        go_wp2
        go_ret
        exact ⟨rfl, HB9.out⟩
    · have hz : z ≠ 0 := fun c => ha (mg_zero.1 (HL2.out.good c)).1
      have ht : t ≠ 0 := fun c => ha (mg_zero.1 (HL3.out.good c)).2
      obtain ⟨r, hr⟩ : ∃ r, r = Es.eErr N [x] := ⟨_, rfl⟩
      rw [← hr] at he ha
      subst he
      have hrr : (r != 0) = true := bne_iff_ne.2 ha
      have hzz : (z != 0) = true := bne_iff_ne.2 hz
      have htt : (t != 0) = true := bne_iff_ne.2 ht
      have HB9 := hid (bl_then HB0.out HB3.out)
      clear HL2 HL3 hr ha hz ht
      go_wp2
      go_ret
      exact ⟨rfl, HB9.out⟩
end Go.Proofs.Ytphbloibldljjaa
