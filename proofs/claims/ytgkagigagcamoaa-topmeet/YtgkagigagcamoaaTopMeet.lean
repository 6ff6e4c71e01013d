
/-
quilltop.TopMeet: whatever a text and two lists of edits: it answers true.
-/
import Derived.Test.YtgkagigagcamoaaSeg40
import Derived.Test.YtgkagigagcamoaaTopOps
import Derived.Test.YtgkagigagcamoaaSeg47
import Derived.Test.YtgkagigagcamoaaMgC
import Derived.Test.YtgkagigagcamoaaSeg45
import Derived.Test.YtgkagigagcamoaaTopWorks
import Derived.Test.YtgkagigagcamoaaTopCut
import Derived.Test.YtgkagigagcamoaaSeg36
import Derived.Test.YtgkagigagcamoaaShUse
import Derived.Deep.RegionHeld3
namespace Go.Proofs.Ytgkagigagcamoaa
open Go.RowKit

/-- What the ops of two good scripts that don't touch make of a text. -/
theorem tm_meet {s : ByteArray} {A B l : List Es.Ev} (ha : Es.eErr (s.size : Int) A = 0) (hb : Es.eErr (s.size : Int) B = 0) (hel : Es.eErr (s.size : Int) l = 0) (hisb : Es.IsBo A B l) (hc : ¬ Es.Cls A B) (hno : ∀ x, x ∈ A → x ∉ B)
    (G : AllGood (s.size : Int) (Tm.oops A) (Tm.oops B)) :
    (Sh.RowOk (s.size : Int) (Tm.oops A ++ (Sh.allA (Tm.oops A) (Tm.oops B)).2) ∧ Sh.RowOk (s.size : Int) (Tm.oops B ++ (Sh.allA (Tm.oops A) (Tm.oops B)).1)) ∧
      Sh.run (lst s) (Tm.oops A ++ (Sh.allA (Tm.oops A) (Tm.oops B)).2) = Es.doneL (lst s) l ∧ Sh.run (lst s) (Tm.oops B ++ (Sh.allA (Tm.oops A) (Tm.oops B)).1) = Es.doneL (lst s) l := by
  obtain ⟨ca, -⟩ := Es.err_ch ha
  obtain ⟨cb, -⟩ := Es.err_ch hb
  have hm := Es.meets (s := lst s) hisb (by rw [lst_len]; exact ha) (by rw [lst_len]; exact hb) (by rw [lst_len]; exact hel)
  obtain ⟨cbeh, -⟩ := Es.err_ch hm.1
  have hro := Sh.rows_ok G.ra G.rb G.ta G.tb
  have hmeet := Sh.all_meet (s := lst s) (by rw [lst_len]; exact Sh.rowOk_ok G.ra) (by rw [lst_len]; exact Sh.rowOk_ok G.rb)
  have h1 : Sh.run (lst s) (Tm.oops A ++ (Sh.allA (Tm.oops A) (Tm.oops B)).2) = Es.doneL (lst s) l := by
    rw [Sh.run_app, Tm.run_oops (lst_len s) ca, Tm.all_behind ca cb hc hno, Tm.run_oops rfl cbeh]
    exact hm.2
  refine ⟨⟨Tm.rowOk_app.2 ⟨G.ra, hro.2⟩, Tm.rowOk_app.2 ⟨G.rb, hro.1⟩⟩, h1, ?_⟩
  rw [Sh.run_app, hmeet, ← Sh.run_app]
  exact h1
theorem oops_wf {L : List Es.Ev} (h : ∀ x, x ∈ L → 0 ≤ x.a ∧ x.a ≤ 200 ∧ x.s.size ≤ 40) : ∀ y, y ∈ Tm.oops L → OpWf y := by
  intro y hy
  obtain ⟨x, hx, hy⟩ := Tm.oops_in hy
  have hb := h x hx
  unfold Tm.eops at hy
  rcases List.mem_append.1 hy with hy | hy
  · obtain ⟨-, rfl⟩ := List.mem_replicate.1 hy
    exact ⟨show -9223372036854775808 ≤ (2 : Int) by decide, show (2 : Int) ≤ 9223372036854775807 by decide, show -9223372036854775808 ≤ x.a by omega, show x.a ≤ 9223372036854775807 by omega⟩
  · have hp := Tm.puts_in hy
    rw [lst_len] at hp
    exact ⟨by omega, by omega, by omega, by omega⟩
theorem OwnO.in_ {w : World} {base : Nat} {C : Option Addr} {c : Nat} {u : List Sh.Op} (h : OwnO w base (.slice C u.length c) u) (hw : ∀ y, y ∈ u → OpWf y) (hl : u.length ≤ maxLen) : OpIn w C u.length (fun k => u.getD k Sh.zero) :=
  ⟨h.readAt, fun k hk => hw _ (by rw [List.getD_eq_getElem?_getD, List.getElem?_eq_getElem hk]; exact List.getElem_mem hk), hl⟩
theorem small_of {N : Nat} {n : Nat} {g : Nat → Es.Ev} (h : Es.eErr (N : Int) (el g n) = 0) : SmE n g ∧ (∀ x, x ∈ el g n → 0 ≤ x.a ∧ x.a ≤ 200 ∧ x.s.size ≤ 40) ∧ (Tm.oops (el g n)).length ≤ 4800 := by
  obtain ⟨hc, h2, h3, _⟩ := Es.err_ch h
  rw [el_len] at h3
  have key : ∀ x, x ∈ el g n → 0 ≤ x.a ∧ x.a ≤ 200 ∧ 0 ≤ x.d ∧ x.d ≤ 200 ∧ x.s.size ≤ 40 := fun x hx => by
    have := Es.ch_mem hc hx
    omega
  refine ⟨⟨h3, fun k hk => key _ (el_in hk)⟩, fun x hx => by have := key x hx; omega, ?_⟩
  have h1 := oops_len (M := 240) (el g n) fun x hx => by have := key x hx; omega
  rw [el_len] at h1
  omega
theorem tm_in {s : ByteArray} {L : List Es.Ev} (h : Es.eErr (s.size : Int) L = 0) : (∀ k, k < L.length → EvWf (L.getD k Es.none_)) ∧ L.length ≤ maxLen := by
  obtain ⟨G, q, hs⟩ := Es.scr_of (s := lst s) (by rw [lst_len]; exact h)
  exact ⟨scr_wf hs, Nat.le_trans (scr_len hs) (by decide)⟩
theorem rowOk_wf : ∀ {L : List Sh.Op} {n : Int}, Sh.RowOk n L → ∀ x, x ∈ L → OpWf x
  | [], _, _, x, hx => by simp at hx
  | y :: L, n, h, x, hx => by
    rw [List.mem_cons] at hx
    rcases hx with rfl | hx
    · have := op_small h.1
      exact ⟨by omega, by omega, by omega, by omega⟩
    · exact rowOk_wf h.2 x hx
theorem typed_own {s t : ByteArray} {L : List Sh.Op} {W : World} {base : Nat} {C : Option Addr} {k c : Nat} (hk : L.length = k) (ho : OwnO W base (.slice C k c) L) (hok : Sh.RowOk (s.size : Int) L) (hl : L.length ≤ maxLen) (ht : mkS (Sh.run (lst s) L) = t) :
    Calls Try.prog 37 #[.string s, .slice C k c] W fun e w' => e = .returned (.tuple #[.string t, .bool true]) ∧ Below W.heap.size W w' := by
  subst hk
  have := typed_any (c := c) s W (ho.in_ (rowOk_wf hok) hl) (by rw [ol_of]; exact hok)
  rw [ol_of, ht] at this
  exact this
theorem concat_own {L M : List Sh.Op} {W : World} {A1 A2 : Option Addr} {c1 c2 : Nat} (h1 : OpRow W A1 L.length fun k => L.getD k Sh.zero) (h2 : OpRow W A2 M.length fun k => M.getD k Sh.zero) (hl : L.length + M.length ≤ 100000) :
    Calls Try.prog 38 #[.slice (some ⟨W.heap.size, 0, none⟩) 2 2] (W.alloc (.cells #[.slice A1 L.length c1, .slice A2 M.length c2] 33)) fun e w' => ∃ C c, e = .returned (.slice C (L.length + M.length) c) ∧ OwnO w' (W.alloc (.cells #[.slice A1 L.length c1, .slice A2 M.length c2] 33)).heap.size (.slice C (L.length + M.length) c) (L ++ M) ∧ Below W.heap.size W w' := by
  have HCT : catO (twoNO L.length M.length) (twoGO (fun k => L.getD k Sh.zero) fun k => M.getD k Sh.zero) 2 = L ++ M := by rw [catO_two, ol_of, ol_of]
  refine (concatO_any W.heap.size 0 2 2 _ _ _ (by simp) (partsO_two (c1 := c1) (c2 := c2) (t := 33) rfl h1 h2) (by rw [HCT, List.length_append]; exact hl) (by decide)).mono ?_
  rintro e w' ⟨v, rfl, ho, hb⟩
  rw [HCT] at ho
  obtain ⟨C, c, e1, -, -⟩ := ho.row
  subst e1
  rw [List.length_append] at ho ⊢
  exact ⟨C, c, rfl, ho, bl_then (bl_new W _) hb⟩
set_option maxHeartbeats 8000000 in
set_option maxRecDepth 100000 in
theorem topMeet_walk (s0 : ByteArray) (A : Option Addr) (n c1 : Nat) (g : Nat → Es.Ev) (B : Option Addr) (m c2 : Nat) (h : Nat → Es.Ev) (w : World) (_ : s0.size ≤ 140737488351232)
    (h1 : EvRow w A n g) (hw1 : ∀ k, k < n → EvWf (g k)) (hnc1 : n ≤ c1) (hc1 : c1 ≤ maxLen) (h2 : EvRow w B m h) (hw2 : ∀ k, k < m → EvWf (h k)) (hnc2 : m ≤ c2) (hc2 : c2 ≤ maxLen) :
    Calls Try.prog 10 #[.string s0, .slice A n c1, .slice B m c2] w fun e w' => e = .returned (.bool true) ∧ Below w.heap.size w w' := by
  have H1 : Hid (EvIn w A n g) := ⟨h1, hw1, Nat.le_trans hnc1 hc1⟩
  have H2 : Hid (EvIn w B m h) := ⟨h2, hw2, Nat.le_trans hnc2 hc2⟩
  have hb0 : (w.alloc (.cells #[.slice B m c2] 54)).cell? ⟨w.heap.size, 0, none⟩ = some (.slice B m c2) := (cell_of_row _ _ _ _ _ _ (heap_alloc_new w _)).trans rfl
  have HB := hid (bl_new w (.cells #[.slice B m c2] 54))
  have HBX : Hid (BxE (w.alloc (.cells #[.slice B m c2] 54)) w.heap.size B m c2 h) := ⟨by simp, hb0, H2.out.row.keep HB.out⟩
  clear h1 hw1 hnc1 hc1 h2 hw2 hnc2 hc2
  go_enter Try.func10, Try.ntmps10
  go_wp2_with fail
  refine (topCut_any s0 100 _ (by decide)).mono ?_
  rintro e w1 ⟨rfl, rfl⟩
  obtain ⟨s, hs⟩ : ∃ s, s = s0.extract 0 (min s0.size 100) := ⟨_, rfl⟩
  have hn : s.size ≤ 100 := by rw [hs]; simp; omega
  rw [← hs]
  clear hs
  have hsm : s.size ≤ maxLen := Nat.le_trans hn (by decide)
  have HI : Hid (I64 (s.size : Int)) := by show I64 _; unfold I64; omega
  have HN : Hid (N64 (s.size : Int)) := by show N64 _; unfold N64; omega
  obtain ⟨w1, hw1⟩ : ∃ w1, w1 = w.alloc (.cells #[.slice B m c2] 54) := ⟨_, rfl⟩
  rw [← hw1] at HB HBX hb0 ⊢
  clear hw1
  go_wp2_with fail
  with_reducible refine (Both_any (s.size : Int) _ (H1.out.keep HB.out) (H2.out.keep HB.out) HI.out).mono ?_
  rintro e w3 ⟨C, c, l, x, rfl, hlc, hl, hr, hb⟩
  replace HB := hid (bl_then HB.out hb)
  replace HBX := hid (HBX.out.keep hb)
  have HL := hid hl
  have HR := hid hr
  clear hl hr hb hb0
  go_wp2_with fail
  with_reducible refine (works_ok _).mono ?_
  rintro e w4 ⟨rfl, hb⟩
  replace HB := hid (bl_then HB.out hb)
  replace HBX := hid (HBX.out.keep hb)
  replace HR := hid (HR.out.keep hb)
  clear hb
  by_cases hx : x = 0
  · subst hx
    have hmg := HL.out.good rfl
    obtain ⟨ha, hb⟩ := mg_zero.1 hmg
    have hbo := HL.out.ok hmg
    rw [Int.toNat_natCast] at hbo
    obtain ⟨hcl, hisb, hel⟩ := hbo.zero rfl
    have HCL := hid hcl
    have HIS := hid hisb
    have HEL := hid hel
    have HA := hid ha
    have HBB := hid hb
    have HLI := hid (tm_in hel)
    clear hmg hbo hcl hisb hel ha hb HL
    go_wp2_with fail
    with_reducible refine (topHas_any (c1 := c1) (c := c2) _ (H1.out.keep HB.out).row H1.out.len HBX.out H2.out.len).mono ?_
    rintro e w5 ⟨⟨v, rfl, hv⟩, hb⟩
    replace HB := hid (bl_then HB.out hb)
    replace HBX := hid (HBX.out.keep hb)
    replace HR := hid (HR.out.keep hb)
    clear hb
    cases v with
    | true =>
      clear hv
      go_wp2_with fail
      with_reducible refine (works_ok _).mono ?_
      rintro e w6 ⟨rfl, hb⟩
      replace HB := hid (bl_then HB.out hb)
      clear hb
      go_wp2
      go_ret
      exact ⟨rfl, HB.out⟩
    | false =>
      have HNO := hid (hv rfl)
      clear hv
      go_wp2_with fail
      with_reducible refine (Apply_any s _ HR.out HLI.out.1 HLI.out.2 hsm).mono ?_
      rintro e w6 ⟨t, x2, rfl, hap, hb⟩
      rw [el_of] at hap
      obtain ⟨rfl, ht⟩ := hap.lit HEL.out
      have HT := hid ht
      replace HB := hid (bl_then HB.out hb)
      replace HBX := hid (HBX.out.keep hb)
      clear hb hap HR ht hlc
      obtain ⟨hsa, hba, hla⟩ := small_of HA.out
      obtain ⟨hsb, hbb, hlb⟩ := small_of HBB.out
      have HSA := hid hsa
      have HSB := hid hsb
      have HWA := hid (oops_wf hba)
      have HWB := hid (oops_wf hbb)
      obtain ⟨OA, hOA⟩ : ∃ OA, OA = Tm.oops (el g n) := ⟨_, rfl⟩
      obtain ⟨OB, hOB⟩ : ∃ OB, OB = Tm.oops (el h m) := ⟨_, rfl⟩
      rw [← hOA] at hla HWA
      rw [← hOB] at hlb HWB
      have HLA := hid hla
      have HLB := hid hlb
      have hlaM : OA.length ≤ maxLen := Nat.le_trans hla (by decide)
      have hlbM : OB.length ≤ maxLen := Nat.le_trans hlb (by decide)
      have HLAM := hid hlaM
      have HLBM := hid hlbM
      have HOPA : Hid (∀ W, Below w6.heap.size w6 W → Calls Try.prog 36 #[.slice A n c1] W fun e w' => ∃ v, e = .returned v ∧ OwnO w' W.heap.size v OA ∧ Below W.heap.size W w') := fun W hW => by
        rw [hOA]; exact ops_any W ((H1.out.keep HB.out).row.keep hW) HSA.out
      have HOPB : Hid (∀ W, Below w6.heap.size w6 W → Calls Try.prog 36 #[.slice B m c2] W fun e w' => ∃ v, e = .returned v ∧ OwnO w' W.heap.size v OB ∧ Below W.heap.size W w') := fun W hW => by
        rw [hOB]; exact ops_any W ((H2.out.keep HB.out).row.keep hW) HSB.out
      have HXC : Hid (∀ W, Below w6.heap.size w6 W → W.cell? ⟨w.heap.size, 0, none⟩ = some (.slice B m c2)) := fun W hW => (HBX.out.keep hW).2.1
      have hDr : Below w6.heap.size w6 w6.drew := bl_drewN (Below.refl _ _) 1
      have HOA := hid hOA
      have HOB := hid hOB
      clear hsa hba hla hsb hbb hlb hOA hOB hlaM hlbM
      go_wp2
      go_region_held3 (fun W => W.cell? ⟨w.heap.size, 0, none⟩ = some (.slice B m c2)) (first | exact HXC.out _ hDr | exact HXC.out _ hb10 | exact HXC.out _ hb9 | exact HXC.out _ hb8) (first | (go_at_call 36; (with_reducible refine (HOPA.out _ hDr).mono ?_); rintro e w8 ⟨va, rfl, hoa, hb8⟩; obtain ⟨A1, ca, e1, -, -⟩ := hoa.row; subst e1; have hb8 : Below w6.heap.size w6 w8 := bl_then hDr hb8; have HO8 := hid hoa; clear hoa) | (go_at_call 36; (with_reducible refine (HOPB.out _ hb8).mono ?_); rintro e w9 ⟨vb, rfl, hob, hb9⟩; obtain ⟨B1, cb, e1, -, -⟩ := hob.row; subst e1; have HO9 := hid hob; replace HO8 := hid (HO8.out.low hb9); have hb9 : Below w6.heap.size w6 w9 := bl_then hb8 hb9; clear hob) | (go_at_call 16; (with_reducible refine (All_any (s.size : Int) _ (HO8.out.in_ HWA.out HLAM.out) (HO9.out.in_ HWB.out HLBM.out) HN.out).mono ?_); rintro e w10 ⟨C2, cc, D2, dd, u, v, e3, rfl, hall, hu, hv, -, hb10⟩; have HALL := hid hall; have HU := hid hu; have HV := hid hv; have hb10 : Below w6.heap.size w6 w10 := bl_then hb9 hb10; clear hall hu hv))
      rename_i hHeld
      clear hHeld
      replace HB := hid (bl_then HB.out hb10)
      replace HBX := hid (HBX.out.keep hb10)
      have HW := hid hb10
      clear hb8 hb9 hb10 HXC hDr HO8 HO9 HWA HWB HSA HSB
      rw [ol_of, ol_of] at HALL
      by_cases h3 : e3 = 0
      · subst h3
        have G := HALL.out.good HN.out rfl
        obtain ⟨-, eu, ev⟩ := HALL.out.ok rfl
        have l1 := (Sh.all_len OA OB).1
        have l2 := (Sh.all_len OA OB).2
        rw [← eu] at l1
        rw [← ev] at l2
        have G2 := G
        rw [HOA.out, HOB.out] at G2
        have tm := tm_meet HA.out HBB.out HEL.out HIS.out HCL.out HNO.out G2
        rw [← HOA.out, ← HOB.out, ← eu, ← ev] at tm
        obtain ⟨⟨ro1, ro2⟩, ru1, ru2⟩ := tm
        have g1 := G.la
        have g2 := G.lb
        have hs1 : OA.length + v.length ≤ 100000 := by omega
        have hs2 : OB.length + u.length ≤ 100000 := by omega
        have HS1 := hid hs1
        have HS2 := hid hs2
        have HM1 : Hid ((OA ++ v).length ≤ maxLen) := by show _ ≤ _; rw [List.length_append]; exact Nat.le_trans hs1 (by decide)
        have HM2 : Hid ((OB ++ u).length ≤ maxLen) := by show _ ≤ _; rw [List.length_append]; exact Nat.le_trans hs2 (by decide)
        have RO1 := hid ro1
        have RO2 := hid ro2
        have RU1 : Hid (mkS (Sh.run (lst s) (OA ++ v)) = t) := by show _ = _; rw [ru1, HT.out]
        have RU2 : Hid (mkS (Sh.run (lst s) (OB ++ u)) = t) := by show _ = _; rw [ru2, HT.out]
        clear G G2 eu ev l1 l2 ro1 ro2 ru1 ru2 g1 g2 hs1 hs2 HALL
        go_wp2_with fail
        with_reducible refine (HOPA.out _ HW.out).mono ?_
        rintro e w11 ⟨va, rfl, hoa, hb⟩
        obtain ⟨A2, ca2, e1, -, hra⟩ := hoa.row
        subst e1
        have HRA := hid hra
        replace HV := hid (HV.out.low hb)
        replace HU := hid (HU.out.low hb)
        replace HB := hid (bl_then HB.out hb)
        replace HBX := hid (HBX.out.keep hb)
        replace HW := hid (bl_then HW.out hb)
        clear hoa hra hb
        go_wp2_with fail
        with_reducible refine (concat_own HRA.out HV.out.readAt HS1.out).mono ?_
        rintro e w12 ⟨C3, c3, rfl, hoc, hb⟩
        have HOC := hid hoc
        replace HU := hid (HU.out.low hb)
        replace HB := hid (bl_then HB.out hb)
        replace HBX := hid (HBX.out.keep hb)
        replace HW := hid (bl_then HW.out hb)
        clear hoc hb HRA HV
        go_wp2_with fail
        with_reducible refine (typed_own List.length_append HOC.out RO1.out HM1.out RU1.out).mono ?_
        rintro e w13 ⟨rfl, hb⟩
        replace HU := hid (HU.out.low hb)
        replace HB := hid (bl_then HB.out hb)
        replace HBX := hid (HBX.out.keep hb)
        replace HW := hid (bl_then HW.out hb)
        clear hb HOC
        obtain ⟨-, hb0, -⟩ := HBX.out
        go_wp2_with fail
        with_reducible refine (HOPB.out _ HW.out).mono ?_
        rintro e w14 ⟨va, rfl, hoa, hb⟩
        obtain ⟨A2, ca2, e1, -, hra⟩ := hoa.row
        subst e1
        have HRA := hid hra
        replace HU := hid (HU.out.low hb)
        replace HB := hid (bl_then HB.out hb)
        clear hoa hra hb hb0 HW HBX
        go_wp2_with fail
        with_reducible refine (concat_own HRA.out HU.out.readAt HS2.out).mono ?_
        rintro e w15 ⟨C4, c4, rfl, hoc, hb⟩
        have HOC := hid hoc
        replace HB := hid (bl_then HB.out hb)
        clear hoc hb HRA HU
        go_wp2_with fail
        with_reducible refine (typed_own List.length_append HOC.out RO2.out HM2.out RU2.out).mono ?_
        rintro e w16 ⟨rfl, hb⟩
        replace HB := hid (bl_then HB.out hb)
        clear hb HOC
        go_wp2
        go_ret
        exact ⟨rfl, HB.out⟩
      · have hz := HALL.out.1
        obtain ⟨ca_, h200, -⟩ := Es.err_ch HA.out
        obtain ⟨cb_, -⟩ := Es.err_ch HBB.out
        have hf := Tm.all_few ca_ cb_ h200
        rw [← HOA.out, ← HOB.out, ← hz] at hf
        have hx1 : (e3 != 0) = true := bne_iff_ne.2 h3
        rcases hf with hf | hf | hf
        · exact absurd hf h3
        · subst hf
          clear h3 HALL hz
          go_wp2
          go_ret
          exact ⟨rfl, HB.out⟩
        · subst hf
          clear h3 HALL hz
          go_wp2
          go_ret
          exact ⟨rfl, HB.out⟩
  · have hx1 : (x != 0) = true := bne_iff_ne.2 hx
    clear hx HL
    go_wp2_with fail
    with_reducible refine (works_ok _).mono ?_
    rintro e w6 ⟨rfl, hb⟩
    replace HB := hid (bl_then HB.out hb)
    clear hb
    go_wp2
    go_ret
    exact ⟨rfl, HB.out⟩
end Go.Proofs.Ytgkagigagcamoaa
