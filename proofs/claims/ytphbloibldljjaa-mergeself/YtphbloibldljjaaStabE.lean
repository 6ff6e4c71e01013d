
/-
The contracts of slices.SortStableFunc at []api.Edit, with quillref.BothOf's closure: its helpers one by one.
-/
import Derived.Test.YtphbloibldljjaaStabMath
import Derived.Test.YtphbloibldljjaaEvRow
import Derived.RegionTactic
import Derived.BigRegion
import Derived.Deep.RegionHeld3
namespace Go.Proofs.Ytphbloibldljjaa
open Go.RowKit

/-- The three cells at p of block b hold the edit x, and may be written. -/
def Ev3 (w : World) (b p : Nat) (x : Es.Ev) : Prop :=
  w.cell? ⟨b, p, none⟩ = some (.int .i64 x.a) ∧ w.cell? ⟨b, p + 1, none⟩ = some (.int .i64 x.d) ∧ w.cell? ⟨b, p + 2, none⟩ = some (.string x.s) ∧
    w.frozen? ⟨b, p, none⟩ = false ∧ w.frozen? ⟨b, p + 1, none⟩ = false ∧ w.frozen? ⟨b, p + 2, none⟩ = false
theorem Ev3.block {w w' : World} {b p : Nat} {x : Es.Ev} (h : Ev3 w b p x) (e : w'.heap[b]? = w.heap[b]?) : Ev3 w' b p x := by
  have ec : ∀ j, w'.cell? ⟨b, j, none⟩ = w.cell? ⟨b, j, none⟩ := fun j => World.cell?_of_block (a := ⟨b, j, none⟩) e
  have ef : ∀ j, w'.frozen? ⟨b, j, none⟩ = w.frozen? ⟨b, j, none⟩ := fun j => World.frozen?_of_block (a := ⟨b, j, none⟩) e
  unfold Ev3
  rw [ec, ec, ec, ef, ef, ef]
  exact h
/-- An edit is written at p of block b. -/
def put3 (w : World) (b p : Nat) (x : Es.Ev) : World := ((w.setCell ⟨b, p, none⟩ (.int .i64 x.a)).setCell ⟨b, p + 1, none⟩ (.int .i64 x.d)).setCell ⟨b, p + 2, none⟩ (.string x.s)
theorem put3_same {w : World} {b p : Nat} {x y : Es.Ev} (h : Ev3 w b p y) : Ev3 (put3 w b p x) b p x := by
  obtain ⟨h1, h2, h3, h4, h5, h6⟩ := h
  have n1 : ∀ q r : Nat, q ≠ r → (⟨b, q, none⟩ : Addr) ≠ ⟨b, r, none⟩ := fun q r e h => e (by injection h)
  unfold put3
  refine ⟨?_, ?_, ?_, by simpa using h4, by simpa using h5, by simpa using h6⟩
  · rw [World.cell?_setCell_other _ _ _ _ (n1 _ _ (by omega)), World.cell?_setCell_other _ _ _ _ (n1 _ _ (by omega)), World.cell?_setCell_same _ _ _ h1]
  · rw [World.cell?_setCell_other _ _ _ _ (n1 _ _ (by omega))]
    exact World.cell?_setCell_same _ _ _ ((World.cell?_setCell_other _ _ _ _ (n1 _ _ (by omega))).trans h2)
  · exact World.cell?_setCell_same _ _ _ ((World.cell?_setCell_other _ _ _ _ (n1 _ _ (by omega))).trans ((World.cell?_setCell_other _ _ _ _ (n1 _ _ (by omega))).trans h3))
theorem put3_other {w : World} {b p q : Nat} {x y : Es.Ev} (h : Ev3 w b q y) (hne : q + 3 ≤ p ∨ p + 3 ≤ q) : Ev3 (put3 w b p x) b q y := by
  obtain ⟨h1, h2, h3, h4, h5, h6⟩ := h
  have n1 : ∀ q r : Nat, q ≠ r → (⟨b, q, none⟩ : Addr) ≠ ⟨b, r, none⟩ := fun q r e h => e (by injection h)
  unfold put3
  refine ⟨?_, ?_, ?_, by simpa using h4, by simpa using h5, by simpa using h6⟩
  · rw [World.cell?_setCell_other _ _ _ _ (n1 _ _ (by omega)), World.cell?_setCell_other _ _ _ _ (n1 _ _ (by omega)), World.cell?_setCell_other _ _ _ _ (n1 _ _ (by omega))]
    exact h1
  · rw [World.cell?_setCell_other _ _ _ _ (n1 _ _ (by omega)), World.cell?_setCell_other _ _ _ _ (n1 _ _ (by omega)), World.cell?_setCell_other _ _ _ _ (n1 _ _ (by omega))]
    exact h2
  · rw [World.cell?_setCell_other _ _ _ _ (n1 _ _ (by omega)), World.cell?_setCell_other _ _ _ _ (n1 _ _ (by omega)), World.cell?_setCell_other _ _ _ _ (n1 _ _ (by omega))]
    exact h3
/-- The edits E (g 0), E (g 1), .. lie from o on in block b; nothing else has changed since w0. -/
structure SE (w0 : World) (b o n : Nat) (E : Nat → Es.Ev) (g : Nat → Nat) (w : World) : Prop where
  row : ∀ k, k < n → Ev3 w b (o + k * 3) (E (g k))
  gr : w0.grownBy w (some b)
  val : ∀ k, k < n → g k < n
  lt : b < w.heap.size
theorem gsetE {w a : World} {g i : Nat} {v : Value} (h : w.grownBy a (some g)) : w.grownBy (a.setCell ⟨g, i, none⟩ v) (some g) :=
  ⟨h.os, h.tape, h.output, by simpa using h.size, fun x hx hne => (Below.heap_setCell a _ v x (fun e => hne (by rw [e]))).trans (h.block x hx hne)⟩
theorem gbelowE {w a b : World} {g : Option Nat} (h : w.grownBy a g) (k : Below a.heap.size a b) : w.grownBy b g :=
  ⟨k.os.trans h.os, k.tape.trans h.tape, k.output.trans h.output, Nat.le_trans h.size k.size, fun x hx hne => (k.block x (Nat.lt_of_lt_of_le hx h.size)).trans (h.block x hx hne)⟩
theorem SE.drewN {w0 w : World} {b o n : Nat} {E : Nat → Es.Ev} {g : Nat → Nat} (h : SE w0 b o n E g w) (d : Nat) : SE w0 b o n E g (w.drewN d) := ⟨h.row, ⟨h.gr.os, h.gr.tape, h.gr.output, h.gr.size, h.gr.block⟩, h.val, h.lt⟩
theorem SE.keep {w0 w w' : World} {b o n : Nat} {E : Nat → Es.Ev} {g : Nat → Nat} (h : SE w0 b o n E g w) (k : Below w.heap.size w w') : SE w0 b o n E g w' :=
  ⟨fun j hj => (h.row j hj).block (k.block b h.lt), gbelowE h.gr k, h.val, Nat.lt_of_lt_of_le h.lt k.size⟩
theorem SE.congr {w0 w : World} {b o n : Nat} {E : Nat → Es.Ev} {g h : Nat → Nat} (H : SE w0 b o n E g w) (e : ∀ x, h x = g x) : SE w0 b o n E h w := ⟨fun k hk => by rw [e k]; exact H.row k hk, H.gr, fun k hk => by rw [e k]; exact H.val k hk, H.lt⟩
theorem SE.swap {w0 w : World} {b o n : Nat} {E : Nat → Es.Ev} {g h : Nat → Nat} (H : SE w0 b o n E g w) (i j : Nat) (hi : i < n) (hj : j < n) (hne : i ≠ j) (hh : ∀ x, h x = g (St.swI i j x)) :
    SE w0 b o n E h ((((((w.setCell ⟨b, o + i * 3, none⟩ (.int .i64 (E (g j)).a)).setCell ⟨b, o + i * 3 + 1, none⟩ (.int .i64 (E (g j)).d)).setCell ⟨b, o + i * 3 + 2, none⟩ (.string (E (g j)).s)).setCell ⟨b, o + j * 3, none⟩ (.int .i64 (E (g i)).a)).setCell ⟨b, o + j * 3 + 1, none⟩ (.int .i64 (E (g i)).d)).setCell ⟨b, o + j * 3 + 2, none⟩ (.string (E (g i)).s)).drew := by
  refine SE.drewN (d := 1) ⟨fun k hk => ?_, gsetE (gsetE (gsetE (gsetE (gsetE (gsetE H.gr))))), fun k hk => by rw [hh k]; exact H.val _ (by have := St.swI_spec i j k; omega), by simpa using H.lt⟩
  show Ev3 (put3 (put3 w b (o + i * 3) (E (g j))) b (o + j * 3) (E (g i))) b (o + k * 3) (E (h k))
  have hs := St.swI_spec i j k
  rw [hh k]
  by_cases h1 : k = j
  · rw [h1, show St.swI i j j = i by have := St.swI_spec i j j; omega]
    exact put3_same (put3_other (H.row j hj) (by omega))
  · by_cases h2 : k = i
    · rw [h2, show St.swI i j i = j by have := St.swI_spec i j i; omega]
      exact put3_other (put3_same (H.row i hi)) (by omega)
    · rw [show St.swI i j k = k by omega]
      exact put3_other (put3_other (H.row k hk) (by omega)) (by omega)
theorem cellsE {w w' : World} {b p q : Nat} {x y : Es.Ev} (k : Below w.heap.size w w') (hlt : b < w.heap.size) (h1 : w.cell? ⟨b, p, none⟩ = some (.int .i64 x.a)) (h2 : w.cell? ⟨b, p + 1, none⟩ = some (.int .i64 x.d)) (h3 : w.cell? ⟨b, p + 2, none⟩ = some (.string x.s)) (h4 : w.cell? ⟨b, q, none⟩ = some (.int .i64 y.a)) (h5 : w.cell? ⟨b, q + 1, none⟩ = some (.int .i64 y.d)) (h6 : w.cell? ⟨b, q + 2, none⟩ = some (.string y.s)) :
    w'.cell? ⟨b, p, none⟩ = some (.int .i64 x.a) ∧ w'.cell? ⟨b, p + 1, none⟩ = some (.int .i64 x.d) ∧ w'.cell? ⟨b, p + 2, none⟩ = some (.string x.s) ∧ w'.cell? ⟨b, q, none⟩ = some (.int .i64 y.a) ∧ w'.cell? ⟨b, q + 1, none⟩ = some (.int .i64 y.d) ∧ w'.cell? ⟨b, q + 2, none⟩ = some (.string y.s) :=
  ⟨(k.cell (p := ⟨b, p, none⟩) hlt).trans h1, (k.cell (p := ⟨b, p + 1, none⟩) hlt).trans h2, (k.cell (p := ⟨b, p + 2, none⟩) hlt).trans h3, (k.cell (p := ⟨b, q, none⟩) hlt).trans h4, (k.cell (p := ⟨b, q + 1, none⟩) hlt).trans h5, (k.cell (p := ⟨b, q + 2, none⟩) hlt).trans h6⟩

theorem swapE_any {E : Nat → Es.Ev} (w0 : World) (b o n c p q k : Nat) (fv : Value) (g : Nat → Nat) (w : World) (H : SE w0 b o n E g w) (h1 : p + k ≤ q) (h2 : q + k ≤ n) (hn : n ≤ 1000) :
    Calls Try.prog 67 #[.slice (some ⟨b, o, none⟩) n c, .int .i64 (p : Int), .int .i64 (q : Int), .int .i64 (k : Int), fv] w fun e w' => e = .returned (.tuple #[]) ∧ SE w0 b o n E (fun x => g (St.srI p q k x)) w' := by
  have HH := hid H
  clear H
  go_enter Try.func67, Try.ntmps67
  go_wp2
  go_loopw [10] (fun x wr => ∃ i : Nat, i ≤ k ∧ x = .int .i64 i ∧ Hid (SE w0 b o n E (fun x => g (St.srI p q i x)) wr)) (fun x _ => k - (intOf x).toNat)
  case atStart => exact ⟨0, by omega, rfl, hid (HH.out.congr fun x => by rw [St.sr_zero])⟩
  case round =>
    obtain ⟨i, hi, rfl, HR⟩ := hrel
    by_cases hlt : i < k
    · obtain ⟨u, hu⟩ : ∃ u, u = p + i := ⟨_, rfl⟩
      obtain ⟨v, hv⟩ : ∃ v, v = q + i := ⟨_, rfl⟩
      have eu : (p : Int) + (i : Int) = (u : Int) := by omega
      have ev : (q : Int) + (i : Int) = (v : Int) := by omega
      have hun : u < n := by omega
      have hvn : v < n := by omega
      have hun' : (u : Int) < (n : Int) := by omega
      have hvn' : (v : Int) < (n : Int) := by omega
      have hltE : (i : Int) < (k : Int) := by omega
      obtain ⟨cu, cu1, cu2, fu, fu1, fu2⟩ := HR.out.row u hun
      obtain ⟨cv, cv1, cv2, fv', fv1, fv2⟩ := HR.out.row v hvn
      have R := hid (HR.out.swap (h := fun x => g (St.srI p q (i + 1) x)) u v hun hvn (by omega) (fun x => by rw [hu, hv, St.sr_step p q i (by omega)]))
      obtain ⟨X, hX⟩ : ∃ X, X = E (g (St.srI p q i u)) := ⟨_, rfl⟩
      obtain ⟨Y, hY⟩ : ∃ Y, Y = E (g (St.srI p q i v)) := ⟨_, rfl⟩
      rw [← hX] at cu cu1 cu2 R
      rw [← hY] at cv cv1 cv2 R
      clear hX hY
      have HU := hid hu
      have HV := hid hv
      clear hu hv HR
      go_wp2
      go_region
      go_wp2
      go_roundw
      case rel => exact ⟨i + 1, by omega, by go_num, R⟩
      case measure => simp [intOf]; omega
    · obtain rfl : i = k := by omega
      go_wp2
      go_end0
      exact ⟨rfl, HR.out⟩

theorem rotE_any {E : Nat → Es.Ev} (w0 : World) (b o n c p m q : Nat) (fv : Value) (g : Nat → Nat) (w : World) (H : SE w0 b o n E g w) (h1 : p < m) (h2 : m < q) (h3 : q ≤ n) (hn : n ≤ 1000) :
    Calls Try.prog 65 #[.slice (some ⟨b, o, none⟩) n c, .int .i64 (p : Int), .int .i64 (m : Int), .int .i64 (q : Int), fv] w fun e w' => e = .returned (.tuple #[]) ∧ SE w0 b o n E (fun x => g (St.rotI p m q x)) w' := by
  have HH := hid H
  clear H
  obtain ⟨i0, hi0⟩ : ∃ i0, i0 = m - p := ⟨_, rfl⟩
  obtain ⟨j0, hj0⟩ : ∃ j0, j0 = q - m := ⟨_, rfl⟩
  have ei0 : (m : Int) - (p : Int) = (i0 : Int) := by omega
  have ej0 : (q : Int) - (m : Int) = (j0 : Int) := by omega
  have HI0 := hid hi0
  have HJ0 := hid hj0
  have hb1 : i0 ≤ 1000 := by omega
  have hb2 : j0 ≤ 1000 := by omega
  clear hi0 hj0
  go_enter Try.func65, Try.ntmps65
  go_wp2
  go_loopw [10, 11] (fun x y wr => ∃ i j : Nat, x = .int .i64 i ∧ y = .int .i64 j ∧ 0 < i ∧ 0 < j ∧ i ≤ m ∧ m + j ≤ n ∧ Hid (∃ h, (∀ z, h (St.rotI (m - i) m (m + j) z) = g (St.rotI p m q z)) ∧ SE w0 b o n E h wr)) (fun x y _ => (intOf x).toNat + (intOf y).toNat)
  case atStart =>
    have := HI0.out
    have := HJ0.out
    refine ⟨i0, j0, rfl, rfl, by omega, by omega, by omega, by omega, hid ⟨g, fun z => ?_, HH.out⟩⟩
    rw [show m - i0 = p by omega, show m + j0 = q by omega]
  case round =>
    obtain ⟨i, j, rfl, rfl, hi, hj, him, hjm, HR⟩ := hrel
    obtain ⟨h, hh, hs⟩ := HR.out
    have HS := hid hs
    have HH2 := hid hh
    clear hs hh HR
    obtain ⟨u, hu⟩ : ∃ u, u = m - i := ⟨_, rfl⟩
    have eu : (m : Int) - (i : Int) = (u : Int) := by omega
    have HU := hid hu
    have hun : u ≤ 1000 := by omega
    clear hu
    by_cases hij : i = j
    · have hne : ((i : Int) != (j : Int)) = false := by subst hij; simp
      have HIJ := hid hij
      clear hij
      go_wp2_with fail
      with_reducible refine (swapE_any w0 b o n c u m i fv h _ HS.out (by have := HU.out; omega) (by have := HIJ.out; omega) hn).mono ?_
      rintro e w1 ⟨rfl, hs1⟩
      have HS1 := hid hs1
      clear hs1
      go_wp2
      go_end0
      refine ⟨rfl, HS1.out.congr fun x => ?_⟩
      rw [← HH2.out x, HU.out, St.rot_last m i him, ← HIJ.out]
    · have hne : ((i : Int) != (j : Int)) = true := bne_iff_ne.2 (by omega)
      by_cases hlt : j < i
      · obtain ⟨v, hv⟩ : ∃ v, v = i - j := ⟨_, rfl⟩
        have ev : (i : Int) - (j : Int) = (v : Int) := by omega
        have HV := hid hv
        have hlt' : (j : Int) < (i : Int) := by omega
        have hvn : v ≤ 1000 := by omega
        have HIJ := hid hij
        clear hv hij
        go_wp2_with fail
        with_reducible refine (swapE_any w0 b o n c u m j fv h _ HS.out (by have := HU.out; omega) (by omega) hn).mono ?_
        rintro e w1 ⟨rfl, hs1⟩
        have HS1 := hid hs1
        clear hs1
        go_wp2
        go_roundw
        case measure => have := HV.out; simp [intOf]; omega
        case rel =>
          have := HV.out
          refine ⟨v, j, rfl, rfl, by omega, hj, by omega, hjm, hid ⟨_, fun z => ?_, HS1.out⟩⟩
          show h (St.srI u m j (St.rotI (m - v) m (m + j) z)) = _
          rw [← HH2.out z, HU.out, this, St.rot_left m i j him hlt]
      · obtain ⟨v, hv⟩ : ∃ v, v = j - i := ⟨_, rfl⟩
        have ev : (j : Int) - (i : Int) = (v : Int) := by omega
        have HV := hid hv
        have hlt' : decide ((j : Int) < (i : Int)) = false := decide_eq_false (by omega)
        have hlt2 : i < j := by omega
        have hvn : v ≤ 1000 := by omega
        obtain ⟨t, ht⟩ : ∃ t, t = m + j := ⟨_, rfl⟩
        have et : (m : Int) + (j : Int) = (t : Int) := by omega
        have htn : t ≤ 1000 := by omega
        obtain ⟨s, hs⟩ : ∃ s, s = t - i := ⟨_, rfl⟩
        have es : (t : Int) - (i : Int) = (s : Int) := by omega
        have hsn : s ≤ 1000 := by omega
        have HT := hid ht
        have HSS := hid hs
        clear hv hij ht hs
        go_wp2_with fail
        with_reducible refine (swapE_any w0 b o n c u s i fv h _ HS.out (by have := HU.out; have := HT.out; have := HSS.out; omega) (by have := HT.out; have := HSS.out; omega) hn).mono ?_
        rintro e w1 ⟨rfl, hs1⟩
        have HS1 := hid hs1
        clear hs1
        go_wp2
        go_roundw
        case measure => have := HV.out; simp [intOf]; omega
        case rel =>
          have := HV.out
          refine ⟨i, v, rfl, rfl, hi, by omega, him, by omega, hid ⟨_, fun z => ?_, HS1.out⟩⟩
          show h (St.srI u s i (St.rotI (m - i) m (m + v) z)) = _
          rw [← HH2.out z, HU.out, HSS.out, HT.out, this, St.rot_right m i j him hlt2]

/-- How the closure compares. -/
def CmpE (E : Nat → Es.Ev) (n : Nat) (cf : Nat → Nat → Int) : Prop :=
  ∀ (W : World) x y, x < n → y < n → Calls Try.prog 31 #[.agg #[.int .i64 (E x).a, .int .i64 (E x).d, .string (E x).s], .agg #[.int .i64 (E y).a, .int .i64 (E y).d, .string (E y).s]] W fun e w' => e = .returned (.int .i64 (cf x y)) ∧ Below W.heap.size W w'
abbrev ltE (cf : Nat → Nat → Int) (x y : Nat) : Prop := cf x y < 0

set_option maxRecDepth 100000 in
set_option maxHeartbeats 1000000 in
theorem insE_any {E : Nat → Es.Ev} (w0 : World) (b o n c p q : Nat) (cf : Nat → Nat → Int) (R : Nat → Nat → Prop) (g : Nat → Nat) (w : World) (hC : CmpE E n cf) (O : St.Ord (ltE cf) R) (H : SE w0 b o n E g w)
    (hg : ∀ x y, p ≤ x → x < y → y < q → g x < g y) (h1 : p ≤ q) (h2 : q ≤ n) (hn : n ≤ 1000) :
    Calls Try.prog 48 #[.slice (some ⟨b, o, none⟩) n c, .int .i64 (p : Int), .int .i64 (q : Int), .func (.func 31) #[] #[]] w fun e w' => e = .returned (.tuple #[]) ∧ ∃ h, St.PI p q g h ∧ St.Srt R p q h ∧ SE w0 b o n E h w' := by
  have HH := hid H
  have HC := hid hC
  have HG := hid hg
  clear H hC hg
  go_enter Try.func48, Try.ntmps48
  go_wp2
  go_loopw [8] (fun x wr => ∃ i : Nat, x = .int .i64 i ∧ p < i ∧ Hid (∃ h, St.PI p (min i q) g h ∧ St.Srt R p i h ∧ SE w0 b o n E h wr)) (fun x _ => q - (intOf x).toNat)
  case atStart => exact ⟨p + 1, by go_num, by omega, hid ⟨g, St.PI.refl _ _ _, fun x y x1 x2 x3 => by omega, HH.out⟩⟩
  case round =>
    obtain ⟨i, rfl, hpi, HR⟩ := hrel
    obtain ⟨h, hpi1, hsrt, hsi⟩ := HR.out
    have HP := hid hpi1
    have HT := hid hsrt
    have HS := hid hsi
    clear hpi1 hsrt hsi HR
    by_cases hlt : i < q
    · have hlt' : (i : Int) < (q : Int) := by omega
      have HP : Hid (St.PI p i g h) := HP.out.mono (Nat.le_refl _) (by omega)
      go_wp2
      go_loopw [9] (fun x wr => ∃ j : Nat, x = .int .i64 j ∧ p ≤ j ∧ j ≤ i ∧ Hid (∃ h', St.PI p (i + 1) h h' ∧ St.Ins R p i j (h i) h' ∧ SE w0 b o n E h' wr)) (fun x _ => (intOf x).toNat)
      case atStart => exact ⟨i, rfl, by omega, by omega, hid ⟨h, St.PI.refl _ _ _, St.Ins.start (by omega) HT.out (St.erl_of_inc (b := i + 1) (fun x y x1 x2 x3 => HG.out x y x1 x2 (by omega)) HP.out), HS.out⟩⟩
      case round =>
        obtain ⟨j, rfl, hpj, hji, HR⟩ := hrel
        obtain ⟨h', hpi1, hins, hsi⟩ := HR.out
        have HP2 := hid hpi1
        have HI := hid hins
        have HS2 := hid hsi
        clear hpi1 hins hsi HR
        have fin : Hid (St.Srt R p (i + 1) h' → ∃ h, St.PI p (min (i + 1) q) g h ∧ St.Srt R p (i + 1) h ∧ SE w0 b o n E h wr) := fun hs => ⟨h', (HP.out.mono (Nat.le_refl _) (by omega)).trans (HP2.out.mono (Nat.le_refl _) (by omega)), hs, HS2.out⟩
        by_cases hpj2 : p < j
        · obtain ⟨k, hk⟩ : ∃ k, j = k + 1 := ⟨j - 1, by omega⟩
          have ek : (j : Int) - 1 = (k : Int) := by omega
          have hpj3 : (p : Int) < (j : Int) := by omega
          have hjn : j < n := by omega
          have hkn : k < n := by omega
          have hjn' : (j : Int) < (n : Int) := by omega
          have hkn' : (k : Int) < (n : Int) := by omega
          obtain ⟨cj, cj1, cj2, fj, fj1, fj2⟩ := HS2.out.row j hjn
          obtain ⟨ck, ck1, ck2, fk, fk1, fk2⟩ := HS2.out.row k hkn
          have hv := HI.out.at_
          have hlt0 : b < wr.drew.heap.size := HS2.out.lt
          have HCC := hid (HC.out wr.drew (h' j) (h' k) (HS2.out.val j hjn) (HS2.out.val k hkn))
          have hr0 : ∀ r, r = cf (h' j) (h' k) → (r < 0 ↔ ltE cf (h i) (h' k)) := by rintro r rfl; rw [← hv]
          have HR0 := hid hr0
          have HSW := hid (fun W (h : SE w0 b o n E h' W) => SE.swap (h := fun x => h' (St.swI j k x)) h j k hjn hkn (by omega) (fun x => rfl))
          have HK := hid hk
          have hwk : IntKind.i64.wrap (k : Int) = (k : Int) := IntWalk.i64_in _ (by omega)
          have hk0 : (0 : Int) ≤ (k : Int) := by omega
          clear hk hr0 hv
          obtain ⟨r, hr⟩ : ∃ r, r = cf (h' j) (h' k) := ⟨_, rfl⟩
          have hrr := HR0.out r hr
          rw [← hr] at HCC
          clear hr HR0
          obtain ⟨X, hX⟩ : ∃ X, X = E (h' j) := ⟨_, rfl⟩
          obtain ⟨Y, hY⟩ : ∃ Y, Y = E (h' k) := ⟨_, rfl⟩
          rw [← hX] at cj cj1 cj2 HCC HSW
          rw [← hY] at ck ck1 ck2 HCC HSW
          clear hX hY
          by_cases hneg : r < 0
          · have HL := hid (hrr.1 hneg)
            clear hrr fin
            go_wp2
            go_region_held3 (fun W => W.cell? ⟨b, o + j * 3, none⟩ = some (.int .i64 X.a) ∧ W.cell? ⟨b, o + j * 3 + 1, none⟩ = some (.int .i64 X.d) ∧ W.cell? ⟨b, o + j * 3 + 2, none⟩ = some (.string X.s) ∧ W.cell? ⟨b, o + k * 3, none⟩ = some (.int .i64 Y.a) ∧ W.cell? ⟨b, o + k * 3 + 1, none⟩ = some (.int .i64 Y.d) ∧ W.cell? ⟨b, o + k * 3 + 2, none⟩ = some (.string Y.s)) (first | exact ⟨cj, cj1, cj2, ck, ck1, ck2⟩ | assumption) (first | (go_at_call 31; (with_reducible refine HCC.out.mono ?_); rintro e w8 ⟨rfl, hb8⟩; have hS8 := cellsE hb8 hlt0 cj cj1 cj2 ck ck1 ck2; have HS8 := hid ((HS2.out.drewN 1).keep hb8); have HB8 := hid hb8; clear hb8))
            have R := hid (HSW.out _ HS8.out)
            obtain ⟨c1, c2, c3, c4, c5, c6⟩ := hS8
            have g1 := (World.frozen?_of_block (w := wr.drew) (w' := w8) (a := ⟨b, o + j * 3, none⟩) (HB8.out.block b hlt0)).trans fj
            have g2 := (World.frozen?_of_block (w := wr.drew) (w' := w8) (a := ⟨b, o + j * 3 + 1, none⟩) (HB8.out.block b hlt0)).trans fj1
            have g3 := (World.frozen?_of_block (w := wr.drew) (w' := w8) (a := ⟨b, o + j * 3 + 2, none⟩) (HB8.out.block b hlt0)).trans fj2
            have g4 := (World.frozen?_of_block (w := wr.drew) (w' := w8) (a := ⟨b, o + k * 3, none⟩) (HB8.out.block b hlt0)).trans fk
            have g5 := (World.frozen?_of_block (w := wr.drew) (w' := w8) (a := ⟨b, o + k * 3 + 1, none⟩) (HB8.out.block b hlt0)).trans fk1
            have g6 := (World.frozen?_of_block (w := wr.drew) (w' := w8) (a := ⟨b, o + k * 3 + 2, none⟩) (HB8.out.block b hlt0)).trans fk2
            clear cj cj1 cj2 ck ck1 ck2 fj fj1 fj2 fk fk1 fk2
            go_wp2
            go_region
            go_wp2
            go_roundw
            case measure => have := HK.out; simp [intOf]; omega
            case rel =>
              have hk := HK.out
              have hl := HL.out
              have hin := HI.out
              rw [hk] at hin
              refine ⟨k, by first | rfl | go_num, by omega, by omega, hid ⟨_, HP2.out.trans (St.PI.sw h' (i := j) (j := k) (by omega) (by omega) (by omega) (by omega)), ?_, R.out⟩⟩
              rw [hk]
              exact hin.step O (by omega) hl
          · have hneg' : decide (r < 0) = false := decide_eq_false hneg
            have HL := hid (fun hh => hneg (hrr.2 hh))
            clear hrr
            go_wp2
            go_region_held3 (fun W => W.cell? ⟨b, o + j * 3, none⟩ = some (.int .i64 X.a) ∧ W.cell? ⟨b, o + j * 3 + 1, none⟩ = some (.int .i64 X.d) ∧ W.cell? ⟨b, o + j * 3 + 2, none⟩ = some (.string X.s) ∧ W.cell? ⟨b, o + k * 3, none⟩ = some (.int .i64 Y.a) ∧ W.cell? ⟨b, o + k * 3 + 1, none⟩ = some (.int .i64 Y.d) ∧ W.cell? ⟨b, o + k * 3 + 2, none⟩ = some (.string Y.s)) (first | exact ⟨cj, cj1, cj2, ck, ck1, ck2⟩ | assumption) (first | (go_at_call 31; (with_reducible refine HCC.out.mono ?_); rintro e w8 ⟨rfl, hb8⟩; have hS8 := cellsE hb8 hlt0 cj cj1 cj2 ck ck1 ck2; have HS8 := hid ((HS2.out.drewN 1).keep hb8); have HB8 := hid hb8; clear hb8))
            go_wp2
            go_roundw
            case measure => simp [intOf]; omega
            case rel =>
              have hk := HK.out
              have hl := HL.out
              have hin := HI.out
              rw [hk] at hin
              obtain ⟨h2, a1, a2, a3⟩ := fin.out (hin.done O (by omega) hl)
              exact ⟨i + 1, by go_num, by omega, hid ⟨h2, a1, a2, (a3.drewN 1).keep HB8.out⟩⟩
        · have hpj3 : decide ((p : Int) < (j : Int)) = false := decide_eq_false (by omega)
          have hpj4 : decide (p < j) = false := decide_eq_false (by omega)
          go_wp2
          go_quiet (fail)
          go_wp2
          go_roundw
          case measure => simp [intOf]; omega
          case rel =>
            obtain rfl : p = j := by omega
            obtain ⟨h2, a1, a2, a3⟩ := fin.out HI.out.low
            exact ⟨i + 1, by go_num, by omega, hid ⟨h2, a1, a2, a3.drewN _⟩⟩
    · have hlt' : decide ((i : Int) < (q : Int)) = false := decide_eq_false (by omega)
      go_wp2
      go_end0
      exact ⟨rfl, h, HP.out.mono (Nat.le_refl _) (by omega), fun x y x1 x2 x3 => HT.out x y x1 x2 (by omega), HS.out⟩
end Go.Proofs.Ytphbloibldljjaa
