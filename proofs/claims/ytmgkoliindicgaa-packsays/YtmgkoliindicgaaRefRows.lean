
/-
The contract of quillref.RowsOf: in how many ways a text is a row of words, counted in a map.
-/
import Derived.Test.YtmgkoliindicgaaPackWay
import Derived.Maps.OwnOps
import Derived.Maps.Views
import Derived.Carry
namespace Go.Proofs.Ytmgkoliindicgaa
open Go.RowKit Go.Maps

theorem zero_int (w : World) : (zeroValue 3).run Try.prog w = .ok (.int .i64 0) w := by kernel_rfl
theorem law_int : Keyed Try.prog 3 := int_keyed Try.underlying3
theorem wf_nat {j : Nat} (h : j ≤ 4611686018427387904) : (Lit.int .i64 (j : Int)).wf = true := WalkArith.wf_i64 ⟨by omega, by omega⟩
/-- The map in block B holds the counts f; K: no more stores than that. -/
def MWay (w : World) (B K : Nat) (f : Nat → Nat) : Prop :=
  ∃ D : DataW Unit, w.ownsMap Try.prog 3 (plainElem (H := Unit) Try.prog 3) B K D ∧ Maps.IsMap D ∧ ∀ j : Nat, D.atKey (.int .i64 (j : Int)) (.lit (.int .i64 0)) = .lit (.int .i64 ((f j : Nat) : Int))
theorem MWay.look {w : World} {B K : Nat} {f : Nat → Nat} (h : MWay w B K f) {j : Nat} (hj : j ≤ 4611686018427387904) :
    (Instr.lookup 63 (.map (some B)) (.int .i64 (j : Int)) false).run Try.prog w = .ok (.int .i64 ((f j : Nat) : Int)) w := by
  obtain ⟨D, h1, h2, h3⟩ := h
  obtain ⟨c, hrun, hat, _⟩ := h1.lookup_int law_int Try.underlying63 Try.underlying3 (zero_int w) (keyOf_int_mk Try.underlying3 (wf_nat hj))
  rw [h3 j] at hat
  have hc : ((f j : Nat) : Int) = c := by simpa only [DataW.lit.injEq, Lit.int.injEq, true_and] using hat
  rw [hrun, hc]
theorem MWay.put {w : World} {B K : Nat} {f : Nat → Nat} (h : MWay w B K f) (hK : K ≤ 1000000) {j v : Nat} (hj : j ≤ 4611686018427387904) (hv : v ≤ 4611686018427387904) :
    ∃ w', (Instr.mapUpdate 63 (.map (some B)) (.int .i64 (j : Int)) (.int .i64 (v : Int))).run Try.prog w = .ok () w' ∧ MWay w' B (K + 1) (fun i => if i = j then v else f i) ∧ w.grownBy w' (some B) := by
  obtain ⟨D, h1, h2, h3⟩ := h
  obtain ⟨w', hrun, hown, hg⟩ := h1.update law_int Try.underlying63 (by unfold maxLen; omega) (keyOf_int_mk Try.underlying3 (wf_nat hj)) (plainElem_int Try.underlying3 (wf_nat hv))
  refine ⟨w', hrun, ⟨_, hown, h2.put _ _, fun i => ?_⟩, hg⟩
  show _ = DataW.lit (Lit.int IntKind.i64 ((if i = j then v else f i : Nat) : Int))
  by_cases e : i = j
  · subst e
    rw [if_pos rfl, atKey_put_same h2 (by simp [WideAt.IsKeyLit])]
  · rw [if_neg e, atKey_put_other (fun e' => e (by simp only [Lit.int.injEq, true_and] at e'; omega)), h3]
theorem MWay.keep {w w' : World} {B X K : Nat} {f : Nat → Nat} (h : MWay w B K f) (hb : Below X w w') (hB : B < X) : MWay w' B K f := by
  obtain ⟨D, ⟨es, clock, h2, h2'⟩, h3⟩ := h
  exact ⟨D, ⟨es, clock, (hb.block B hB).trans h2, h2'⟩, h3⟩
theorem MWay.most {w : World} {B K K' : Nat} {f : Nat → Nat} (h : MWay w B K f) (hK : K ≤ K') : MWay w B K' f := by
  obtain ⟨D, h1, h2⟩ := h
  exact ⟨D, h1.mono hK, h2⟩
theorem MWay.congr {w : World} {B K : Nat} {f f' : Nat → Nat} (h : MWay w B K f) (hf : ∀ j, f j = f' j) : MWay w B K f' := by
  obtain ⟨D, h1, h2, h3⟩ := h
  exact ⟨D, h1, h2, fun j => by rw [h3, hf]⟩
theorem MWay.new (w : World) : MWay (w.alloc (.map #[] 0)) w.heap.size 0 (fun _ => 0) := ⟨_, World.ownsMap_made w _ _ _, isMap_empty, fun _ => rfl⟩
set_option maxHeartbeats 2000000 in
theorem RowsOf_ok {A : Option Addr} {n c : Nat} {g : Nat → ByteArray} (s : ByteArray) (w : World) (h : SRow w A n g) (hg : Cm.Good (cws g n)) (hs : s.size ≤ 4096) (hB : ∀ k, k ≤ (wd s).length → Cm.cn (cws g n) (wd s) k ≤ 1099511627776) :
    Calls Try.prog 15 #[.slice A n c, .string s] w fun e w' => e = .returned (.int .i64 ((Cm.cn (cws g n) (wd s) s.size : Nat) : Int)) ∧ Below w.heap.size w w' := by
  obtain ⟨hn, hz⟩ := good_few hg
  have HG := hid hg
  have H := hid h
  have HBd := hid hB
  obtain ⟨w0, hrun0, hm0, hg0⟩ := (MWay.new w).put (by omega) (j := 0) (v := 1) (by omega) (by omega)
  have HM0 : Hid (MWay w0 w.heap.size (1 * 13) (wsF (cws g n) (wd s) 1 0)) := (hm0.congr fun j => by rw [wsF_start]).most (by omega)
  have HB0 : Hid (Below w.heap.size w w0) := (bl_new w (.map #[] 0)).grown hg0 (by simp) (fun j hj => by cases hj; exact Nat.le_refl _)
  have hrun0' : (Instr.mapUpdate 63 (.map (some w.heap.size)) (.int .i64 0) (.int .i64 1)).run Try.prog (w.alloc (.map #[] 0)) = .ok () w0 := hrun0
  have hmm := @run_makeMap Try.prog
  clear h hg hB hz hm0 hg0 hrun0
  go_enter Try.func15, Try.ntmps15
  go_wp2
  clear hmm hrun0'
  go_loopw [6] (fun y wr => ∃ e : Nat, 1 ≤ e ∧ e ≤ s.size + 1 ∧ y = .int .i64 (e : Int) ∧ Hid (MWay wr w.heap.size (e * 13) (wsF (cws g n) (wd s) e 0)) ∧ Hid (Below w.heap.size w wr)) (fun y _ => s.size + 1 - (intOf y).toNat)
  case atStart => exact ⟨1, by omega, by omega, rfl, HM0, HB0⟩
  case round =>
    clear HM0 HB0
    obtain ⟨e, he1, heN, rfl, HR, HB⟩ := hrel
    by_cases hlt : e ≤ s.size
    · have hlt' : (e : Int) ≤ (s.size : Int) := by omega
      go_wp2
      go_loopw [19] (fun y wr => ∃ i : Nat, i ≤ n ∧ y = .int .i64 (i : Int) ∧ Hid (MWay wr w.heap.size (e * 13 + i) (wsF (cws g n) (wd s) e i)) ∧ Hid (Below w.heap.size w wr)) (fun y _ => n - (intOf y).toNat)
      case atStart => exact ⟨0, by omega, rfl, HR, HB⟩
      case round =>
        clear HR HB
        obtain ⟨i, hi, rfl, HR, HB⟩ := hrel
        by_cases hin : i < n
        · have hin' : (i : Int) < (n : Int) := by omega
          obtain ⟨b, o, rfl, hbl, hc0⟩ := H.out i hin
          have hci := (HB.out.cell (p := ⟨b, o + i, none⟩) hbl).trans hc0
          have hi2 : i < (cws g n).length := by rw [cws_len]; exact hin
          have HS : Hid (∀ j, wsF (cws g n) (wd s) e (i + 1) j = if j = e then Cm.pr (cws g n) (wd s) (Cm.cn (cws g n) (wd s)) e i + (if Cm.enw (wd s) e (wd (g i)) then Cm.cn (cws g n) (wd s) (e - (g i).size) else 0) else wsF (cws g n) (wd s) e i j) := by
            intro j
            have := wsF_step (s := wd s) (e := e) hi2 j
            rw [cws_get hin, wd_len] at this
            exact this
          have hpos : 1 ≤ (g i).size := by
            have := List.length_pos_iff.2 (HG.out.some_ _ (mem_cws.2 ⟨i, hin, rfl⟩))
            rwa [wd_len] at this
          have hEnd : Hid (Cm.enw (wd s) e (wd (g i)) = true → (g i).size ≤ e) := fun hh => by
            have := ((Cm.enw_take (by rw [wd_len]; exact hlt)).1 hh).1
            rwa [wd_len] at this
          have hsz : (s.extract 0 e).size ≤ 9223372036854775807 := by rw [size_ext]; omega
          have hSuf := Try.strings_HasSuffix (s.extract 0 e) (g i) wr hsz
          rw [suf_wd] at hSuf
          clear hc0 hi2
          go_wp2_with fail
          with_reducible refine hSuf.mono ?_
          rintro e' w2 ⟨rfl, hw2⟩
          obtain rfl : wr = w2 := hw2.symm
          clear hSuf
          cases hb : Cm.enw (wd s) e (wd (g i)) with
          | true =>
            have hqe := hEnd.out hb
            obtain ⟨r, hr⟩ : ∃ r, r = e - (g i).size := ⟨_, rfl⟩
            have er : (e : Int) - ((g i).size : Int) = (r : Int) := by omega
            have erw : IntKind.i64.wrap (r : Int) = (r : Int) := IntWalk.i64_in _ (by omega)
            have hre : r < e := by omega
            have hlr := HR.out.look (j := r) (by omega)
            have hle := HR.out.look (j := e) (by omega)
            rw [wsF_low hre] at hlr
            rw [wsF_at] at hle
            have hu := pr_bound (W := cws g n) (s := wd s) (e := e) (i := i) HG.out.some_ HBd.out he1 (by rw [wd_len]; exact hlt)
            have hv := HBd.out r (by rw [wd_len]; omega)
            have hS := HS.out
            simp only [hb, if_true] at hS
            rw [← hr] at hS
            obtain ⟨u, hu0⟩ : ∃ u, u = Cm.pr (cws g n) (wd s) (Cm.cn (cws g n) (wd s)) e i := ⟨_, rfl⟩
            obtain ⟨v, hv0⟩ : ∃ v, v = Cm.cn (cws g n) (wd s) r := ⟨_, rfl⟩
            rw [← hu0] at hle hu hS
            rw [← hv0] at hlr hv hS
            obtain ⟨t, ht⟩ : ∃ t, t = u + v := ⟨_, rfl⟩
            have et : (u : Int) + (v : Int) = (t : Int) := by omega
            have hwt : IntKind.i64.wrap (t : Int) = (t : Int) := IntWalk.i64_in _ (by omega)
            obtain ⟨w4, hput, hm4, hg4⟩ := HR.out.put (j := e) (v := t) (by omega) (by omega) (by omega)
            have HM4 : Hid (MWay w4 w.heap.size (e * 13 + (i + 1)) (wsF (cws g n) (wd s) e (i + 1))) := hm4.congr fun j => by rw [hS j, ht]
            have HB4 : Hid (Below w.heap.size w w4) := HB.out.grown hg4 HB.out.size (fun j hj => by cases hj; exact Nat.le_refl _)
            clear hS HS hEnd hb hu0 hv0 ht HR hr hm4 hg4
            go_wp2
            go_roundw
            case measure => simp [intOf]; omega
            case rel => exact ⟨i + 1, by omega, by go_num, HM4, HB4⟩
          | false =>
            have R : Hid (MWay wr w.heap.size (e * 13 + (i + 1)) (wsF (cws g n) (wd s) e (i + 1))) := (HR.out.congr fun j => by
              rw [HS.out j, hb]
              by_cases hj2 : j = e
              · subst hj2; simp [wsF_at]
              · simp [hj2]).most (by omega)
            clear HS hEnd hb HR
            go_wp2
            go_roundw
            case measure => simp [intOf]; omega
            case rel => exact ⟨i + 1, by omega, by go_num, R, HB⟩
        · have hdl : decide ((i : Int) < (n : Int)) = false := decide_eq_false (by omega)
          obtain rfl : n = i := by omega
          have R : Hid (MWay wr w.heap.size ((e + 1) * 13) (wsF (cws g n) (wd s) (e + 1) 0)) := (HR.out.congr fun j => by
            have := wsF_next (s := wd s) HG.out.some_ he1 j
            rw [cws_len] at this
            exact this).most (by omega)
          clear HR
          go_wp2
          go_roundw
          case measure => simp [intOf]; omega
          case rel => exact ⟨e + 1, by omega, by omega, by go_num, R, HB⟩
    · have hdl : decide ((e : Int) ≤ (s.size : Int)) = false := decide_eq_false (by omega)
      have hc := HR.out.look (j := s.size) (by omega)
      rw [wsF_low (by omega)] at hc
      clear HR
      go_wp2
      go_ret
      exact ⟨rfl, HB.out⟩
end Go.Proofs.Ytmgkoliindicgaa
