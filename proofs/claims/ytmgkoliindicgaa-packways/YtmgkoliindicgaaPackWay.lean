
/-
The contracts of pack.ways and pack.Ways; what a row of counts holds on the way.
-/
import Derived.Test.YtmgkoliindicgaaPackPut
import Derived.Test.YtmgkoliindicgaaShelfH
import Derived.Deep.RegionHeld3
namespace Go.Proofs.Ytmgkoliindicgaa
open Go.RowKit

/-- The counts when i words have been tried at the end e. -/
def wsF (W : List (List UInt8)) (s : List UInt8) (e i j : Nat) : Nat := if j < e then Cm.cn W s j else if j = e then Cm.pr W s (Cm.cn W s) e i else 0
theorem wsF_start (W : List (List UInt8)) (s : List UInt8) (j : Nat) : wsF W s 1 0 j = if j = 0 then 1 else 0 := by
  unfold wsF
  by_cases h : j = 0
  · subst h; rw [if_pos (by omega), if_pos rfl]; rfl
  · rw [if_neg (by omega), if_neg h, Cm.pr_zero]; split <;> rfl
theorem wsF_low {W : List (List UInt8)} {s : List UInt8} {e i j : Nat} (h : j < e) : wsF W s e i j = Cm.cn W s j := by unfold wsF; rw [if_pos h]
theorem wsF_at (W : List (List UInt8)) (s : List UInt8) (e i : Nat) : wsF W s e i e = Cm.pr W s (Cm.cn W s) e i := by unfold wsF; rw [if_neg (by omega), if_pos rfl]
theorem wsF_next {W : List (List UInt8)} {s : List UInt8} (hW : ∀ w ∈ W, w ≠ []) {e : Nat} (h : 1 ≤ e) (j : Nat) : wsF W s e W.length j = wsF W s (e + 1) 0 j := by
  unfold wsF
  obtain ⟨d, rfl⟩ : ∃ d, e = d + 1 := ⟨e - 1, by omega⟩
  by_cases h1 : j < d + 1
  · rw [if_pos h1, if_pos (by omega)]
  · by_cases h2 : j = d + 1
    · subst h2
      rw [if_neg h1, if_pos rfl, if_pos (by omega), Cm.cn_succ hW]
    · rw [if_neg h1, if_neg h2, if_neg (by omega), Cm.pr_zero]; split <;> rfl
theorem wsF_step {W : List (List UInt8)} {s : List UInt8} {e i : Nat} (hi : i < W.length) (j : Nat) : wsF W s e (i + 1) j = if j = e then Cm.pr W s (Cm.cn W s) e i + (if Cm.enw s e (W.getD i []) then Cm.cn W s (e - (W.getD i []).length) else 0) else wsF W s e i j := by
  unfold wsF
  by_cases h1 : j = e
  · subst h1
    rw [if_neg (by omega), if_pos rfl, if_pos rfl, Cm.pr_succ hi]
  · rw [if_neg h1, if_neg h1, if_neg h1]
theorem suf_wd {s p : ByteArray} {e : Nat} : Lib.hasSuffix (s.extract 0 e).data.toList p.data.toList = Cm.enw (wd s) e (wd p) := by
  unfold Lib.hasSuffix Cm.enw
  rw [← wd_take]
  rfl
/-- What each count is bounded by: B. -/
theorem pr_bound {W : List (List UInt8)} {s : List UInt8} (hW : ∀ w ∈ W, w ≠ []) {B e i : Nat} (hB : ∀ k, k ≤ s.length → Cm.cn W s k ≤ B) (h1 : 1 ≤ e) (he : e ≤ s.length) : Cm.pr W s (Cm.cn W s) e i ≤ B := by
  obtain ⟨d, rfl⟩ : ∃ d, e = d + 1 := ⟨e - 1, by omega⟩
  have := hB (d + 1) he
  rw [Cm.cn_succ hW] at this
  exact Nat.le_trans Cm.pr_le this
theorem cn_bound {W : List (List UInt8)} (g : Cm.Good W) {s : List UInt8} (h : s.length ≤ 40) : ∀ k, k ≤ s.length → Cm.cn W s k ≤ 1099511627776 := by
  intro k hk
  exact Nat.le_trans (Cm.cn_le g s _ k (Nat.le_refl _)) (Nat.le_trans (Nat.pow_le_pow_right (by decide) (show k ≤ 40 by omega)) (by decide))
theorem row_store' {w wr : World} {B N i : Nat} {t : TypeId} {v : Int} {f g : Nat → Int} (hrow : wr.rowIs B t N (fun j => .int .i64 (f j))) (hbel : Below B w wr) (hg : ∀ j, j < N → g j = if j = i then v else f j) :
    ∀ d, ((wr.drewN d).setCell ⟨B, i, none⟩ (.int .i64 v)).rowIs B t N (fun j => .int .i64 (g j)) ∧ Below B w ((wr.drewN d).setCell ⟨B, i, none⟩ (.int .i64 v)) := by
  intro d
  refine ⟨(World.rowIs.set (w := wr.drewN d) hrow i _).congr fun j hj => ?_, (bl_drewN hbel d).setCell (Nat.le_refl _) _⟩
  rw [hg j hj]
  by_cases h : j = i
  · rw [if_pos h, if_pos h]
  · rw [if_neg h, if_neg h]
set_option maxHeartbeats 2000000 in
theorem ways_any {A : Option Addr} {n c : Nat} {g : Nat → ByteArray} (s : ByteArray) (w : World) (h : SRow w A n g) (hg : Cm.Good (cws g n)) (hs : s.size ≤ 40) :
    Calls Try.prog 35 #[.slice A n c, .string s] w fun e w' => e = .returned (.int .i64 ((Cm.cn (cws g n) (wd s) s.size : Nat) : Int)) ∧ Below w.heap.size w w' := by
  obtain ⟨hn, hz⟩ := good_few hg
  have HG := hid hg
  have H := hid h
  have HBd : Hid (∀ k, k ≤ (wd s).length → Cm.cn (cws g n) (wd s) k ≤ 1099511627776) := cn_bound hg (by rw [wd_len]; exact hs)
  obtain ⟨N, hN⟩ : ∃ N, N = s.size + 1 := ⟨_, rfl⟩
  have eN : (s.size : Int) + 1 = (N : Int) := by omega
  have hwN : IntKind.i64.wrap (N : Int) = (N : Int) := IntWalk.i64_in _ (by omega)
  have hN1 : (0 : Int) < (N : Int) := by omega
  have hN0 : 0 < N := by omega
  have HN := hid hN
  clear h hg hN hz
  have hmk := run_make_row' (P := Try.prog) 23 3 (.int .i64 0) 8 Try.underlying23 Try.infoInt rfl .i64 .i64 N (by have := HN.out; omega) (by have := HN.out; omega) w
  have hmade := World.rowIs_made w (.int .i64 0) N 3
  have hb0 := bl_new w (.cells (madeCells #[.int .i64 0] N) 3)
  generalize w.alloc (.cells (madeCells #[.int .i64 0] N) 3) = w0 at hmk hmade hb0
  have hlt0 := hmade.lt
  have hc0 := hmade.cell (i := 0) hN0
  have hf0 := hmade.frozen 0
  have R0 := row_store' (w := w) (i := 0) (v := 1) (f := fun _ => 0) (g := fun j => ((wsF (cws g n) (wd s) 1 0 j : Nat) : Int)) hmade hb0 (fun j hj => by rw [wsF_start]; split <;> rfl) 0
  have R1 := hid R0
  clear R0 hmade hb0
  go_enter Try.func35, Try.ntmps35
  go_wp2
  clear hmk
  have R2 : Hid ((w0.setCell ⟨w.heap.size, 0, none⟩ (.int .i64 1)).rowIs w.heap.size 3 N (fun j => .int .i64 ((wsF (cws g n) (wd s) 1 0 j : Nat) : Int)) ∧ Below w.heap.size w (w0.setCell ⟨w.heap.size, 0, none⟩ (.int .i64 1))) := R1.out
  clear R1 hc0 hf0 hlt0
  generalize w0.setCell ⟨w.heap.size, 0, none⟩ (.int .i64 1) = w1 at R2 ⊢
  go_loopw [6] (fun y wr => ∃ e : Nat, 1 ≤ e ∧ e ≤ N ∧ y = .int .i64 (e : Int) ∧ Hid (wr.rowIs w.heap.size 3 N (fun j => .int .i64 ((wsF (cws g n) (wd s) e 0 j : Nat) : Int))) ∧ Hid (Below w.heap.size w wr)) (fun y _ => N - (intOf y).toNat)
  case atStart => exact ⟨1, by omega, by omega, rfl, R2.out.1, R2.out.2⟩
  case round =>
    clear R2
    obtain ⟨e, he1, heN, rfl, HR, HB⟩ := hrel
    by_cases hlt : e ≤ s.size
    · have hlt' : (e : Int) ≤ (s.size : Int) := by omega
      have heN' : (e : Int) < (N : Int) := by have := HN.out; omega
      have heN2 : e < N := by have := HN.out; omega
      go_wp2
      go_loopw [23] (fun y wr => ∃ i : Nat, i ≤ n ∧ y = .int .i64 (i : Int) ∧ Hid (wr.rowIs w.heap.size 3 N (fun j => .int .i64 ((wsF (cws g n) (wd s) e i j : Nat) : Int))) ∧ Hid (Below w.heap.size w wr)) (fun y _ => n - (intOf y).toNat)
      case atStart => exact ⟨0, by omega, rfl, HR, HB⟩
      case round =>
        clear HR HB
        obtain ⟨i, hi, rfl, HR, HB⟩ := hrel
        by_cases hin : i < n
        · have hin' : (i : Int) < (n : Int) := by omega
          obtain ⟨b, o, rfl, hbl, hc0⟩ := H.out i hin
          have hci := (HB.out.cell (p := ⟨b, o + i, none⟩) hbl).trans hc0
          have hi2 : i < (cws g n).length := by rw [cws_len]; exact hin
          have HS : Hid (∀ j, wsF (cws g n) (wd s) e (i + 1) j = if j = e then Cm.pr (cws g n) (wd s) (Cm.cn (cws g n) (wd s)) e i + (if Cm.enw (wd s) e (wd (g i)) then Cm.cn (cws g n) (wd s) (e - (g i).size) else 0) else wsF (cws g n) (wd s) e i j) := by
            intro j
            have := wsF_step (s := wd s) (e := e) hi2 j
            rw [cws_get hin, wd_len] at this
            exact this
          have hpos : 1 ≤ (g i).size := by
            have := List.length_pos_iff.2 (HG.out.some_ _ (mem_cws.2 ⟨i, hin, rfl⟩))
            rwa [wd_len] at this
          have hEnd : Hid (Cm.enw (wd s) e (wd (g i)) = true → (g i).size ≤ e) := fun hh => by
            have := ((Cm.enw_take (by rw [wd_len]; exact hlt)).1 hh).1
            rwa [wd_len] at this
          have hsz : (s.extract 0 e).size ≤ 9223372036854775807 := by rw [size_ext]; omega
          have hSuf := Try.strings_HasSuffix (s.extract 0 e) (g i) wr hsz
          rw [suf_wd] at hSuf
          clear hc0 hi2
          go_wp2_with fail
          with_reducible refine hSuf.mono ?_
          rintro e' w2 ⟨rfl, hw2⟩
          obtain rfl : wr = w2 := hw2.symm
          clear hSuf
          cases hb : Cm.enw (wd s) e (wd (g i)) with
          | true =>
            have hqe := hEnd.out hb
            obtain ⟨r, hr⟩ : ∃ r, r = e - (g i).size := ⟨_, rfl⟩
            have er : (e : Int) - ((g i).size : Int) = (r : Int) := by omega
            have hre : r < e := by omega
            have hcr := HR.out.cell (i := r) (by omega)
            have hce := HR.out.cell (i := e) heN2
            have hfe := HR.out.frozen e
            have hlt2 := HR.out.lt
            try simp only at hcr hce
            rw [wsF_low hre] at hcr
            rw [wsF_at] at hce
            have hu := pr_bound (W := cws g n) (s := wd s) (e := e) (i := i) HG.out.some_ HBd.out he1 (by rw [wd_len]; exact hlt)
            have hv := HBd.out r (by rw [wd_len]; omega)
            have hS := HS.out
            simp only [hb, if_true] at hS
            rw [← hr] at hS
            obtain ⟨u, hu0⟩ : ∃ u, u = Cm.pr (cws g n) (wd s) (Cm.cn (cws g n) (wd s)) e i := ⟨_, rfl⟩
            obtain ⟨v, hv0⟩ : ∃ v, v = Cm.cn (cws g n) (wd s) r := ⟨_, rfl⟩
            rw [← hu0] at hce hu hS
            rw [← hv0] at hcr hv hS
            obtain ⟨t, ht⟩ : ∃ t, t = u + v := ⟨_, rfl⟩
            have et : (u : Int) + (v : Int) = (t : Int) := by omega
            have hwt : IntKind.i64.wrap (t : Int) = (t : Int) := IntWalk.i64_in _ (by omega)
            have R := hid (row_store' (i := e) (v := (t : Int)) (g := fun j => ((wsF (cws g n) (wd s) e (i + 1) j : Nat) : Int)) HR.out HB.out (fun j hj => by
              show ((wsF (cws g n) (wd s) e (i + 1) j : Nat) : Int) = _
              rw [hS j, ht]
              split <;> rfl))
            have hrN : (r : Int) < (N : Int) := by omega
            clear hS HS hEnd hb hu0 hv0 ht HR hr
            go_wp2
            go_region
            go_wp2
            go_roundw
            case measure => simp [intOf]; omega
            case rel => exact ⟨i + 1, by omega, by go_num, (R.out 1).1, (R.out 1).2⟩
          | false =>
            have R : Hid (wr.rowIs w.heap.size 3 N (fun j => .int .i64 ((wsF (cws g n) (wd s) e (i + 1) j : Nat) : Int))) := HR.out.congr fun j hj => by
              rw [HS.out j, hb]
              by_cases hj2 : j = e
              · subst hj2; simp [wsF_at]
              · simp [hj2]
            clear HS hEnd hb HR
            go_wp2
            go_roundw
            case measure => simp [intOf]; omega
            case rel => exact ⟨i + 1, by omega, by go_num, R, HB⟩
        · have hdl : decide ((i : Int) < (n : Int)) = false := decide_eq_false (by omega)
          obtain rfl : n = i := by omega
          have R : Hid (wr.rowIs w.heap.size 3 N (fun j => .int .i64 ((wsF (cws g n) (wd s) (e + 1) 0 j : Nat) : Int))) := HR.out.congr fun j hj => by
            have := wsF_next (s := wd s) HG.out.some_ he1 j
            rw [cws_len] at this
            rw [this]
          clear HR
          go_wp2
          go_roundw
          case measure => simp [intOf]; omega
          case rel => exact ⟨e + 1, by omega, by omega, by go_num, R, HB⟩
    · have hdl : decide ((e : Int) ≤ (s.size : Int)) = false := decide_eq_false (by omega)
      have hc := HR.out.cell (i := s.size) (by have := HN.out; omega)
      try simp only at hc
      rw [wsF_low (by omega)] at hc
      have hsN : (s.size : Int) < (N : Int) := by have := HN.out; omega
      clear HR
      go_wp2
      go_ret
      exact ⟨rfl, HB.out⟩
theorem Ways_any {A : Option Addr} {n c : Nat} {g : Nat → ByteArray} (s : ByteArray) (w : World) (h : SRow w A n g) (hc : n ≤ c) :
    Calls Try.prog 10 #[.slice A n c, .string s] w (WayPost g n s w) := by
  have hK := check_any w h hc
  by_cases hE : Cm.cErr (cws g n) = 0
  · by_cases hs : 40 < s.size
    · have HP : Hid (wayE g n s = 2) := by show _ = _; unfold wayE; rw [if_neg (by simpa using hE), if_pos hs]
      have HP2 : Hid (wayN g n s = 0) := by show _ = _; unfold wayN; rw [HP.out, if_neg (by decide)]
      have hs' : (40 : Int) < (s.size : Int) := by omega
      rw [hE] at hK
      clear hE
      go_enter Try.func10, Try.ntmps10
      go_wp2_with fail
      with_reducible refine hK.mono ?_
      rintro e w1 ⟨rfl, rfl⟩
      clear hK
      go_wp2
      go_ret2
      refine ⟨?_, Below.refl _ _⟩
      rw [HP.out, HP2.out]
      rfl
    · have HP : Hid (wayE g n s = 0) := by show _ = _; unfold wayE; rw [if_neg (by simpa using hE), if_neg hs]
      have HP2 : Hid (wayN g n s = Cm.cn (cws g n) (wd s) s.size) := by show _ = _; unfold wayN; rw [HP.out, if_pos rfl]
      have hs' : decide ((40 : Int) < (s.size : Int)) = false := decide_eq_false (by omega)
      have hW := ways_any (c := c) s w h (Cm.cErr_zero.1 hE) (by omega)
      rw [hE] at hK
      clear hE
      go_enter Try.func10, Try.ntmps10
      go_wp2_with fail
      with_reducible refine hK.mono ?_
      rintro e w1 ⟨rfl, rfl⟩
      clear hK
      go_wp2_with fail
      with_reducible refine hW.mono ?_
      rintro e w2 ⟨rfl, hb⟩
      have HB := hid hb
      clear hb hW
      go_wp2
      go_ret2
      refine ⟨?_, HB.out⟩
      rw [HP.out, HP2.out]
      rfl
  · have hE' : (Cm.cErr (cws g n) != 0) = true := bne_iff_ne.2 hE
    have HP : Hid (wayE g n s = Cm.cErr (cws g n)) := by show _ = _; unfold wayE; rw [if_pos hE]
    have HP2 : Hid (wayN g n s = 0) := by show _ = _; unfold wayN; rw [HP.out, if_neg hE]
    generalize Cm.cErr (cws g n) = E at hK hE' HP
    clear hE
    go_enter Try.func10, Try.ntmps10
    go_wp2_with fail
    with_reducible refine hK.mono ?_
    rintro e w1 ⟨rfl, rfl⟩
    clear hK
    go_wp2
    go_ret2
    refine ⟨?_, Below.refl _ _⟩
    rw [HP.out, HP2.out]
    rfl
end Go.Proofs.Ytmgkoliindicgaa
