/-
The contracts of slices.SortStableFunc at quillref.turn, with quillref.TurnsOf's closure: its helpers one by one.
-/
import Derived.Test.YtljpjjokfkbdcaaStabInt
namespace Go.Proofs.Ytljpjjokfkbdcaa
open Go.RowKit

/-- The row of block b holds the turns (tx (g 0), g 0), (tx (g 1), g 1), ..; nothing else has changed since w0. -/
structure SQ (tx : Nat → ByteArray) (w0 : World) (b n : Nat) (g : Nat → Nat) (w : World) : Prop where
  row : ∀ k, k < n → w.cell? ⟨b, k * 2, none⟩ = some (.string (tx (g k))) ∧ w.cell? ⟨b, k * 2 + 1, none⟩ = some (.int .i64 (g k : Int))
  fz : ∀ j, w.frozen? ⟨b, j, none⟩ = false
  gr : w0.grownBy w (some b)
  val : ∀ k, k < n → g k < n
  lt : b < w.heap.size
theorem SQ.drewN {tx : Nat → ByteArray} {w0 w : World} {b n : Nat} {g : Nat → Nat} (h : SQ tx w0 b n g w) (d : Nat) : SQ tx w0 b n g (w.drewN d) := ⟨h.row, h.fz, ⟨h.gr.os, h.gr.tape, h.gr.output, h.gr.size, h.gr.block⟩, h.val, h.lt⟩
theorem SQ.drew {tx : Nat → ByteArray} {w0 w w' : World} {b n : Nat} {g : Nat → Nat} (h : SQ tx w0 b n g w) (d : Drew w w') : SQ tx w0 b n g w' := by
  obtain ⟨k, rfl⟩ := d
  exact h.drewN k
theorem SQ.congr {tx : Nat → ByteArray} {w0 w : World} {b n : Nat} {g h : Nat → Nat} (H : SQ tx w0 b n g w) (e : ∀ x, h x = g x) : SQ tx w0 b n h w := ⟨fun k hk => by rw [e k]; exact H.row k hk, H.fz, H.gr, fun k hk => by rw [e k]; exact H.val k hk, H.lt⟩
theorem SQ.keep {tx : Nat → ByteArray} {w0 w w' : World} {b n : Nat} {g : Nat → Nat} (h : SQ tx w0 b n g w) (k : Below w.heap.size w w') : SQ tx w0 b n g w' := by
  refine ⟨fun j hj => ⟨(k.cell (p := ⟨b, j * 2, none⟩) h.lt).trans (h.row j hj).1, (k.cell (p := ⟨b, j * 2 + 1, none⟩) h.lt).trans (h.row j hj).2⟩, fun j => ?_, ?_, h.val, Nat.lt_of_lt_of_le h.lt k.size⟩
  · have := h.fz j
    unfold World.frozen? at this ⊢
    rw [k.block b h.lt]
    exact this
  · exact ⟨k.os.trans h.gr.os, k.tape.trans h.gr.tape, k.output.trans h.gr.output, Nat.le_trans h.gr.size k.size, fun x hx hne => (k.block x (Nat.lt_of_lt_of_le hx h.gr.size)).trans (h.gr.block x hx hne)⟩
theorem cells4 {w w' : World} {b o1 o2 o3 o4 : Nat} {v1 v2 v3 v4 : Option Value} (k : Below w.heap.size w w') (hlt : b < w.heap.size) (h1 : w.cell? ⟨b, o1, none⟩ = v1) (h2 : w.cell? ⟨b, o2, none⟩ = v2) (h3 : w.cell? ⟨b, o3, none⟩ = v3) (h4 : w.cell? ⟨b, o4, none⟩ = v4) :
    w'.cell? ⟨b, o1, none⟩ = v1 ∧ w'.cell? ⟨b, o2, none⟩ = v2 ∧ w'.cell? ⟨b, o3, none⟩ = v3 ∧ w'.cell? ⟨b, o4, none⟩ = v4 :=
  ⟨(k.cell (p := ⟨b, o1, none⟩) hlt).trans h1, (k.cell (p := ⟨b, o2, none⟩) hlt).trans h2, (k.cell (p := ⟨b, o3, none⟩) hlt).trans h3, (k.cell (p := ⟨b, o4, none⟩) hlt).trans h4⟩
theorem set_at {w : World} {b i j : Nat} {v : Value} (h : (w.cell? ⟨b, i, none⟩).isSome = true) : (w.setCell ⟨b, i, none⟩ v).cell? ⟨b, j, none⟩ = if j = i then some v else w.cell? ⟨b, j, none⟩ := by
  obtain ⟨u, hu⟩ := Option.isSome_iff_exists.1 h
  by_cases e : j = i
  · subst e
    rw [World.cell?_setCell_same w _ _ hu, if_pos rfl]
  · rw [World.cell?_setCell_other w _ _ _ (by intro h'; injection h' with _ h''; exact e h''.symm), if_neg e]
theorem set_some {w : World} {b i j : Nat} {v : Value} (h : (w.cell? ⟨b, i, none⟩).isSome = true) (hj : (w.cell? ⟨b, j, none⟩).isSome = true) : ((w.setCell ⟨b, i, none⟩ v).cell? ⟨b, j, none⟩).isSome = true := by
  rw [set_at h]
  split
  · rfl
  · exact hj
theorem SQ.swap0 {tx : Nat → ByteArray} {w0 w : World} {b n : Nat} {g h : Nat → Nat} (H : SQ tx w0 b n g w) (i j : Nat) (hi : i < n) (hj : j < n) (hij : i ≠ j) (hh : ∀ x, h x = g (St.swI i j x)) (d : Nat) :
    SQ tx w0 b n h (((((w.drewN d).setCell ⟨b, i * 2, none⟩ (.string (tx (g j)))).setCell ⟨b, i * 2 + 1, none⟩ (.int .i64 (g j : Int))).setCell ⟨b, j * 2, none⟩ (.string (tx (g i)))).setCell ⟨b, j * 2 + 1, none⟩ (.int .i64 (g i : Int))) := by
  have hs : ∀ k, k < n → ((w.drewN d).cell? ⟨b, k * 2, none⟩).isSome = true ∧ ((w.drewN d).cell? ⟨b, k * 2 + 1, none⟩).isSome = true := fun k hk => by
    have := (H.drewN d).row k hk
    rw [this.1, this.2]; exact ⟨rfl, rfl⟩
  have hcell : ∀ o, (((((w.drewN d).setCell ⟨b, i * 2, none⟩ (.string (tx (g j)))).setCell ⟨b, i * 2 + 1, none⟩ (.int .i64 (g j : Int))).setCell ⟨b, j * 2, none⟩ (.string (tx (g i)))).setCell ⟨b, j * 2 + 1, none⟩ (.int .i64 (g i : Int))).cell? ⟨b, o, none⟩ =
      if o = j * 2 + 1 then some (.int .i64 (g i : Int)) else if o = j * 2 then some (.string (tx (g i))) else if o = i * 2 + 1 then some (.int .i64 (g j : Int)) else if o = i * 2 then some (.string (tx (g j))) else (w.drewN d).cell? ⟨b, o, none⟩ := fun o => by
    have h1 := fun v o (ho : ((w.drewN d).cell? ⟨b, o, none⟩).isSome = true) => set_some (v := v) (hs i hi).1 ho
    have h2 := fun v v' o (ho : ((w.drewN d).cell? ⟨b, o, none⟩).isSome = true) => set_some (v := v') (h1 v _ (hs i hi).2) (h1 v o ho)
    have h3 := fun v v' v'' o (ho : ((w.drewN d).cell? ⟨b, o, none⟩).isSome = true) => set_some (v := v'') (h2 v v' _ (hs j hj).1) (h2 v v' o ho)
    rw [set_at (h3 _ _ _ _ (hs j hj).2), set_at (h2 _ _ _ (hs j hj).1), set_at (h1 _ _ (hs i hi).2), set_at (hs i hi).1]
  have hfz : ∀ o, (((((w.drewN d).setCell ⟨b, i * 2, none⟩ (.string (tx (g j)))).setCell ⟨b, i * 2 + 1, none⟩ (.int .i64 (g j : Int))).setCell ⟨b, j * 2, none⟩ (.string (tx (g i)))).setCell ⟨b, j * 2 + 1, none⟩ (.int .i64 (g i : Int))).frozen? ⟨b, o, none⟩ = false := fun o => by
    have := (H.drewN d).fz o
    simpa using this
  have h4 := si_set (i := j * 2 + 1) (v := .int .i64 (g i : Int)) (si_set (i := j * 2) (v := .string (tx (g i))) (si_set (i := i * 2 + 1) (v := .int .i64 (g j : Int)) (si_set (i := i * 2) (v := .string (tx (g j))) (H.drewN d).gr)))
  have hWl : b < (((((w.drewN d).setCell ⟨b, i * 2, none⟩ (.string (tx (g j)))).setCell ⟨b, i * 2 + 1, none⟩ (.int .i64 (g j : Int))).setCell ⟨b, j * 2, none⟩ (.string (tx (g i)))).setCell ⟨b, j * 2 + 1, none⟩ (.int .i64 (g i : Int))).heap.size := by simpa using H.lt
  have hr := (H.drewN d).row
  generalize ((((w.drewN d).setCell ⟨b, i * 2, none⟩ (.string (tx (g j)))).setCell ⟨b, i * 2 + 1, none⟩ (.int .i64 (g j : Int))).setCell ⟨b, j * 2, none⟩ (.string (tx (g i)))).setCell ⟨b, j * 2 + 1, none⟩ (.int .i64 (g i : Int)) = W at *
  refine ⟨fun k hk => ?_, fun o => ?_, ?_, fun k hk => by rw [hh k]; exact H.val _ (by have := St.swI_spec i j k; omega), hWl⟩
  · have hsw := St.swI_spec i j k
    rw [hh k]
    show W.cell? _ = _ ∧ W.cell? _ = _
    have e1 := hcell (k * 2)
    have e2 := hcell (k * 2 + 1)
    by_cases h1 : k = j
    · subst h1
      rw [if_neg (by omega), if_pos rfl] at e1
      rw [if_pos rfl] at e2
      rw [show St.swI i k k = i by omega]
      exact ⟨e1, e2⟩
    · by_cases h2 : k = i
      · subst h2
        rw [if_neg (by omega), if_neg (by omega), if_neg (by omega), if_pos rfl] at e1
        rw [if_neg (by omega), if_neg (by omega), if_pos rfl] at e2
        rw [show St.swI k j k = j by omega]
        exact ⟨e1, e2⟩
      · rw [if_neg (by omega), if_neg (by omega), if_neg (by omega), if_neg (by omega)] at e1 e2
        rw [show St.swI i j k = k by omega]
        exact ⟨e1.trans (hr k hk).1, e2.trans (hr k hk).2⟩
  · exact hfz o
  · exact ⟨h4.os, h4.tape, h4.output, h4.size, h4.block⟩
theorem SQ.swap {tx : Nat → ByteArray} {w0 w : World} {b n : Nat} {g h : Nat → Nat} (H : SQ tx w0 b n g w) (i j : Nat) (hi : i < n) (hj : j < n) (hij : i ≠ j) (hh : ∀ x, h x = g (St.swI i j x)) (d : Nat) :
    SQ tx w0 b n h ((((((w.drewN d).setCell ⟨b, i * 2, none⟩ (.string (tx (g j)))).setCell ⟨b, i * 2 + 1, none⟩ (.int .i64 (g j : Int))).setCell ⟨b, j * 2, none⟩ (.string (tx (g i)))).setCell ⟨b, j * 2 + 1, none⟩ (.int .i64 (g i : Int))).drew) :=
  (H.swap0 i j hi hj hij hh d).drewN 1
theorem swapQ_any (tx : Nat → ByteArray) (w0 : World) (b n c p q k : Nat) (fv : Value) (g : Nat → Nat) (w : World) (H : SQ tx w0 b n g w) (h1 : p + k ≤ q) (h2 : q + k ≤ n) (hn : n ≤ 1000) :
    Calls Try.prog 80 #[.slice (some ⟨b, 0, none⟩) n c, .int .i64 (p : Int), .int .i64 (q : Int), .int .i64 (k : Int), fv] w fun e w' => e = .returned (.tuple #[]) ∧ SQ tx w0 b n (fun x => g (St.srI p q k x)) w' := by
  have HH := hid H
  clear H
  go_enter Try.func80, Try.ntmps80
  go_wp2
  go_loopw [10] (fun x wr => ∃ i : Nat, i ≤ k ∧ x = .int .i64 i ∧ Hid (SQ tx w0 b n (fun x => g (St.srI p q i x)) wr)) (fun x _ => k - (intOf x).toNat)
  case atStart => exact ⟨0, by omega, rfl, hid (HH.out.congr fun x => by rw [St.sr_zero])⟩
  case round =>
    obtain ⟨i, hi, rfl, HR⟩ := hrel
    by_cases hlt : i < k
    · obtain ⟨u, hu⟩ : ∃ u, u = p + i := ⟨_, rfl⟩
      obtain ⟨v, hv⟩ : ∃ v, v = q + i := ⟨_, rfl⟩
      have eu : (p : Int) + (i : Int) = (u : Int) := by omega
      have ev : (q : Int) + (i : Int) = (v : Int) := by omega
      have hun : u < n := by omega
      have hvn : v < n := by omega
      have hun' : (u : Int) < (n : Int) := by omega
      have hvn' : (v : Int) < (n : Int) := by omega
      have hltI : (i : Int) < (k : Int) := by omega
      have cu := (HR.out.row _ hun).1
      have cuq := (HR.out.row _ hun).2
      have cv := (HR.out.row _ hvn).1
      have cvq := (HR.out.row _ hvn).2
      have fu := HR.out.fz (u * 2)
      have fuq := HR.out.fz (u * 2 + 1)
      have fv' := HR.out.fz (v * 2)
      have fv'q := HR.out.fz (v * 2 + 1)
      have R := hid (HR.out.swap (h := fun x => g (St.srI p q (i + 1) x)) u v hun hvn (by omega) (fun x => by rw [hu, hv, St.sr_step p q i (by omega)]))
      have HU := hid hu
      have HV := hid hv
      clear hu hv HR
      go_wp2
      go_region
      go_wp2
      go_roundw
      case rel => exact ⟨i + 1, by omega, by go_num, hid (by first | exact R.out 0 | exact R.out _)⟩
      case measure => simp [intOf]; omega
    · obtain rfl : i = k := by omega
      go_wp2
      go_end0
      exact ⟨rfl, HR.out⟩

theorem rotQ_any (tx : Nat → ByteArray) (w0 : World) (b n c p m q : Nat) (fv : Value) (g : Nat → Nat) (w : World) (H : SQ tx w0 b n g w) (h1 : p < m) (h2 : m < q) (h3 : q ≤ n) (hn : n ≤ 1000) :
    Calls Try.prog 72 #[.slice (some ⟨b, 0, none⟩) n c, .int .i64 (p : Int), .int .i64 (m : Int), .int .i64 (q : Int), fv] w fun e w' => e = .returned (.tuple #[]) ∧ SQ tx w0 b n (fun x => g (St.rotI p m q x)) w' := by
  have HH := hid H
  clear H
  obtain ⟨i0, hi0⟩ : ∃ i0, i0 = m - p := ⟨_, rfl⟩
  obtain ⟨j0, hj0⟩ : ∃ j0, j0 = q - m := ⟨_, rfl⟩
  have ei0 : (m : Int) - (p : Int) = (i0 : Int) := by omega
  have ej0 : (q : Int) - (m : Int) = (j0 : Int) := by omega
  have HI0 := hid hi0
  have HJ0 := hid hj0
  have hb1 : i0 ≤ 1000 := by omega
  have hb2 : j0 ≤ 1000 := by omega
  clear hi0 hj0
  go_enter Try.func72, Try.ntmps72
  go_wp2
  go_loopw [10, 11] (fun x y wr => ∃ i j : Nat, x = .int .i64 i ∧ y = .int .i64 j ∧ 0 < i ∧ 0 < j ∧ i ≤ m ∧ m + j ≤ n ∧ Hid (∃ h, (∀ z, h (St.rotI (m - i) m (m + j) z) = g (St.rotI p m q z)) ∧ SQ tx w0 b n h wr)) (fun x y _ => (intOf x).toNat + (intOf y).toNat)
  case atStart =>
    have := HI0.out
    have := HJ0.out
    refine ⟨i0, j0, rfl, rfl, by omega, by omega, by omega, by omega, hid ⟨g, fun z => ?_, HH.out⟩⟩
    rw [show m - i0 = p by omega, show m + j0 = q by omega]
  case round =>
    obtain ⟨i, j, rfl, rfl, hi, hj, him, hjm, HR⟩ := hrel
    obtain ⟨h, hh, hs⟩ := HR.out
    have HS := hid hs
    have HH2 := hid hh
    clear hs hh HR
    obtain ⟨u, hu⟩ : ∃ u, u = m - i := ⟨_, rfl⟩
    have eu : (m : Int) - (i : Int) = (u : Int) := by omega
    have HU := hid hu
    have hun : u ≤ 1000 := by omega
    clear hu
    by_cases hij : i = j
    · have hne : ((i : Int) != (j : Int)) = false := by subst hij; simp
      have HIJ := hid hij
      clear hij
      go_wp2_with fail
      with_reducible refine (swapQ_any tx w0 b n c u m i fv h _ HS.out (by have := HU.out; omega) (by have := HIJ.out; omega) hn).mono ?_
      rintro e w1 ⟨rfl, hs1⟩
      have HS1 := hid hs1
      clear hs1
      go_wp2
      go_end0
      refine ⟨rfl, HS1.out.congr fun x => ?_⟩
      rw [← HH2.out x, HU.out, St.rot_last m i him, ← HIJ.out]
    · have hne : ((i : Int) != (j : Int)) = true := bne_iff_ne.2 (by omega)
      by_cases hlt : j < i
      · obtain ⟨v, hv⟩ : ∃ v, v = i - j := ⟨_, rfl⟩
        have ev : (i : Int) - (j : Int) = (v : Int) := by omega
        have HV := hid hv
        have hlt' : (j : Int) < (i : Int) := by omega
        have hvn : v ≤ 1000 := by omega
        have HIJ := hid hij
        clear hv hij
        go_wp2_with fail
        with_reducible refine (swapQ_any tx w0 b n c u m j fv h _ HS.out (by have := HU.out; omega) (by omega) hn).mono ?_
        rintro e w1 ⟨rfl, hs1⟩
        have HS1 := hid hs1
        clear hs1
        go_wp2
        go_roundw
        case measure => have := HV.out; simp [intOf]; omega
        case rel =>
          have := HV.out
          refine ⟨v, j, rfl, rfl, by omega, hj, by omega, hjm, hid ⟨_, fun z => ?_, HS1.out⟩⟩
          show h (St.srI u m j (St.rotI (m - v) m (m + j) z)) = _
          rw [← HH2.out z, HU.out, this, St.rot_left m i j him hlt]
      · obtain ⟨v, hv⟩ : ∃ v, v = j - i := ⟨_, rfl⟩
        have ev : (j : Int) - (i : Int) = (v : Int) := by omega
        have HV := hid hv
        have hlt' : decide ((j : Int) < (i : Int)) = false := decide_eq_false (by omega)
        have hlt2 : i < j := by omega
        have hvn : v ≤ 1000 := by omega
        obtain ⟨t, ht⟩ : ∃ t, t = m + j := ⟨_, rfl⟩
        have et : (m : Int) + (j : Int) = (t : Int) := by omega
        have htn : t ≤ 1000 := by omega
        obtain ⟨s, hs⟩ : ∃ s, s = t - i := ⟨_, rfl⟩
        have es : (t : Int) - (i : Int) = (s : Int) := by omega
        have hsn : s ≤ 1000 := by omega
        have HT := hid ht
        have HSS := hid hs
        clear hv hij ht hs
        go_wp2_with fail
        with_reducible refine (swapQ_any tx w0 b n c u s i fv h _ HS.out (by have := HU.out; have := HT.out; have := HSS.out; omega) (by have := HT.out; have := HSS.out; omega) hn).mono ?_
        rintro e w1 ⟨rfl, hs1⟩
        have HS1 := hid hs1
        clear hs1
        go_wp2
        go_roundw
        case measure => have := HV.out; simp [intOf]; omega
        case rel =>
          have := HV.out
          refine ⟨i, v, rfl, rfl, hi, by omega, him, by omega, hid ⟨_, fun z => ?_, HS1.out⟩⟩
          show h (St.srI u s i (St.rotI (m - i) m (m + v) z)) = _
          rw [← HH2.out z, HU.out, HSS.out, HT.out, this, St.rot_right m i j him hlt2]

/-- How the closure compares, wherever only the row has changed. -/
def CmpQ (tx : Nat → ByteArray) (w0 : World) (b n : Nat) (cf : Nat → Nat → Int) : Prop :=
  ∀ w, w0.grownBy w (some b) → ∀ x y, x < n → y < n → Calls Try.prog 26 #[.agg #[.string (tx x), .int .i64 (x : Int)], .agg #[.string (tx y), .int .i64 (y : Int)]] w fun e w' => e = .returned (.int .i64 (cf x y)) ∧ Below w.heap.size w w'

theorem insQ_any (tx : Nat → ByteArray) (w0 : World) (b n c p q : Nat) (cf : Nat → Nat → Int) (R : Nat → Nat → Prop) (g : Nat → Nat) (w : World) (hC : CmpQ tx w0 b n cf) (O : St.Ord (ltI cf) R) (H : SQ tx w0 b n g w)
    (hg : ∀ x y, p ≤ x → x < y → y < q → g x < g y) (h1 : p ≤ q) (h2 : q ≤ n) (hn : n ≤ 1000) :
    Calls Try.prog 53 #[.slice (some ⟨b, 0, none⟩) n c, .int .i64 (p : Int), .int .i64 (q : Int), .func (.func 26) #[] #[]] w fun e w' => e = .returned (.tuple #[]) ∧ ∃ h, St.PI p q g h ∧ St.Srt R p q h ∧ SQ tx w0 b n h w' := by
  have HH := hid H
  have HC := hid hC
  have HG := hid hg
  clear H hC hg
  go_enter Try.func53, Try.ntmps53
  go_wp2
  go_loopw [8] (fun x wr => ∃ i : Nat, x = .int .i64 i ∧ p < i ∧ Hid (∃ h, St.PI p (min i q) g h ∧ St.Srt R p i h ∧ SQ tx w0 b n h wr)) (fun x _ => q - (intOf x).toNat)
  case atStart => exact ⟨p + 1, by go_num, by omega, hid ⟨g, St.PI.refl _ _ _, fun x y x1 x2 x3 => by omega, HH.out⟩⟩
  case round =>
    obtain ⟨i, rfl, hpi, HR⟩ := hrel
    obtain ⟨h, hpi1, hsrt, hsi⟩ := HR.out
    have HP := hid hpi1
    have HT := hid hsrt
    have HS := hid hsi
    clear hpi1 hsrt hsi HR
    by_cases hlt : i < q
    · have hlt' : (i : Int) < (q : Int) := by omega
      have HP : Hid (St.PI p i g h) := HP.out.mono (Nat.le_refl _) (by omega)
      go_wp2
      go_loopw [9] (fun x wr => ∃ j : Nat, x = .int .i64 j ∧ p ≤ j ∧ j ≤ i ∧ Hid (∃ h', St.PI p (i + 1) h h' ∧ St.Ins R p i j (h i) h' ∧ SQ tx w0 b n h' wr)) (fun x _ => (intOf x).toNat)
      case atStart => exact ⟨i, rfl, by omega, by omega, hid ⟨h, St.PI.refl _ _ _, St.Ins.start (by omega) HT.out (St.erl_of_inc (b := i + 1) (fun x y x1 x2 x3 => HG.out x y x1 x2 (by omega)) HP.out), HS.out⟩⟩
      case round =>
        obtain ⟨j, rfl, hpj, hji, HR⟩ := hrel
        obtain ⟨h', hpi1, hins, hsi⟩ := HR.out
        have HP2 := hid hpi1
        have HI := hid hins
        have HS2 := hid hsi
        clear hpi1 hins hsi HR
        have fin : Hid (St.Srt R p (i + 1) h' → ∃ h, St.PI p (min (i + 1) q) g h ∧ St.Srt R p (i + 1) h ∧ SQ tx w0 b n h wr) := fun hs => ⟨h', (HP.out.mono (Nat.le_refl _) (by omega)).trans (HP2.out.mono (Nat.le_refl _) (by omega)), hs, HS2.out⟩
        by_cases hpj2 : p < j
        · obtain ⟨k, hk⟩ : ∃ k, j = k + 1 := ⟨j - 1, by omega⟩
          have ek : (j : Int) - 1 = (k : Int) := by omega
          have hpj3 : (p : Int) < (j : Int) := by omega
          have hjn : j < n := by omega
          have hkn : k < n := by omega
          have hjn' : (j : Int) < (n : Int) := by omega
          have hkn' : (k : Int) < (n : Int) := by omega
          have cj := (HS2.out.row _ hjn).1
          have cjq := (HS2.out.row _ hjn).2
          have ck := (HS2.out.row _ hkn).1
          have ckq := (HS2.out.row _ hkn).2
          have fj := HS2.out.fz (j * 2)
          have fjq := HS2.out.fz (j * 2 + 1)
          have fk := HS2.out.fz (k * 2)
          have fkq := HS2.out.fz (k * 2 + 1)
          have hv := HI.out.at_
          have HCC := hid (HC.out wr.drew (HS2.out.drewN 1).gr (h' j) (h' k) (HS2.out.val j hjn) (HS2.out.val k hkn))
          have hr0 : ∀ r, r = cf (h' j) (h' k) → (r < 0 ↔ ltI cf (h i) (h' k)) := by rintro r rfl; rw [← hv]
          have HR0 := hid hr0
          have HK := hid hk
          have HV := hid hv
          have hwk : IntKind.i64.wrap (k : Int) = (k : Int) := IntWalk.i64_in _ (by omega)
          have hk0 : (0 : Int) ≤ (k : Int) := by omega
          clear hk hr0 hv
          generalize hX : h' j = X at cj cjq HCC HR0
          generalize hY : h' k = Y at ck ckq HCC HR0
          have HX := hid hX
          have HY := hid hY
          clear hX hY
          obtain ⟨r, hr⟩ : ∃ r, r = cf X Y := ⟨_, rfl⟩
          have hrr := HR0.out r hr
          rw [← hr] at HCC
          by_cases hneg : r < 0
          · have HL := hid (hrr.1 hneg)
            clear hrr hr HR0 fin
            go_wp2
            have hlt0 : b < wr.drew.heap.size := HS2.out.lt
            go_region_held3 (fun W => W.cell? ⟨b, j * 2, none⟩ = some (.string (tx X)) ∧ W.cell? ⟨b, j * 2 + 1, none⟩ = some (.int .i64 (X : Int)) ∧ W.cell? ⟨b, k * 2, none⟩ = some (.string (tx Y)) ∧ W.cell? ⟨b, k * 2 + 1, none⟩ = some (.int .i64 (Y : Int))) (first | exact ⟨cj, cjq, ck, ckq⟩ | assumption) (first | (go_at_call 26; (with_reducible refine HCC.out.mono ?_); rintro e w8 ⟨rfl, hb8⟩; have hS8 := cells4 hb8 hlt0 cj cjq ck ckq; have HS8 := hid ((HS2.out.drewN 1).keep hb8); have HB8 := hid hb8; clear hb8))
            have R := hid (HS8.out.swap0 (h := fun x => h' (St.swI j k x)) j k hjn hkn (by omega) (fun x => rfl))
            have RD := hid (HS8.out.swap (h := fun x => h' (St.swI j k x)) j k hjn hkn (by omega) (fun x => rfl))
            rw [HX.out, HY.out] at R RD
            obtain ⟨c1, c2, c3, c4⟩ := hS8
            have g1 := HS8.out.fz (j * 2)
            have g2 := HS8.out.fz (j * 2 + 1)
            have g3 := HS8.out.fz (k * 2)
            have g4 := HS8.out.fz (k * 2 + 1)
            clear cj cjq ck ckq fj fjq fk fkq
            go_wp2
            go_region
            go_wp2
            go_roundw
            case measure => have := HK.out; simp [intOf]; omega
            case rel =>
              have hk := HK.out
              have hl := HL.out
              rw [← HY.out] at hl
              have hin := HI.out
              rw [hk] at hin
              refine ⟨k, by first | rfl | go_num, by omega, by omega, hid ⟨_, HP2.out.trans (St.PI.sw h' (i := j) (j := k) (by omega) (by omega) (by omega) (by omega)), ?_, by first | exact RD.out 0 | exact R.out _ | exact R.out 0⟩⟩
              rw [hk]
              exact hin.step O (by omega) hl
          · have hneg' : decide (r < 0) = false := decide_eq_false hneg
            have HL := hid (fun hh => hneg (hrr.2 hh))
            clear hrr hr HR0 
            go_wp2
            have hlt0 : b < wr.drew.heap.size := HS2.out.lt
            go_region_held3 (fun W => W.cell? ⟨b, j * 2, none⟩ = some (.string (tx X)) ∧ W.cell? ⟨b, j * 2 + 1, none⟩ = some (.int .i64 (X : Int)) ∧ W.cell? ⟨b, k * 2, none⟩ = some (.string (tx Y)) ∧ W.cell? ⟨b, k * 2 + 1, none⟩ = some (.int .i64 (Y : Int))) (first | exact ⟨cj, cjq, ck, ckq⟩ | assumption) (first | (go_at_call 26; (with_reducible refine HCC.out.mono ?_); rintro e w8 ⟨rfl, hb8⟩; have hS8 := cells4 hb8 hlt0 cj cjq ck ckq; have HS8 := hid ((HS2.out.drewN 1).keep hb8); have HB8 := hid hb8; clear hb8))
            go_wp2
            go_roundw
            case measure => simp [intOf]; omega
            case rel =>
              have hk := HK.out
              have hl := HL.out
              rw [← HY.out] at hl
              have hin := HI.out
              rw [hk] at hin
              obtain ⟨h2, a1, a2, a3⟩ := fin.out (hin.done O (by omega) hl)
              exact ⟨i + 1, by go_num, by omega, hid ⟨h2, a1, a2, (a3.drewN 1).keep HB8.out⟩⟩
        · have hpj3 : decide ((p : Int) < (j : Int)) = false := decide_eq_false (by omega)
          have hpj4 : decide (p < j) = false := decide_eq_false (by omega)
          go_wp2
          go_quiet (fail)
          go_wp2
          go_roundw
          case measure => simp [intOf]; omega
          case rel =>
            obtain rfl : p = j := by omega
            obtain ⟨h2, a1, a2, a3⟩ := fin.out HI.out.low
            exact ⟨i + 1, by go_num, by omega, hid ⟨h2, a1, a2, a3.drewN _⟩⟩
    · have hlt' : decide ((i : Int) < (q : Int)) = false := decide_eq_false (by omega)
      go_wp2
      go_end0
      exact ⟨rfl, h, HP.out.mono (Nat.le_refl _) (by omega), fun x y x1 x2 x3 => HT.out x y x1 x2 (by omega), HS.out⟩
end Go.Proofs.Ytljpjjokfkbdcaa
