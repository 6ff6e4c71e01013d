/-
The walk of quillkeep.SeekShift: it returns true for all strings.
-/
import Derived.Test.YtdkdnhbdfcfkkaaSeeks
import Derived.Test.YtdkdnhbdfcfkkaaApp
import Derived.Test.YtdkdnhbdfcfkkaaBack
import Derived.Test.YtdkdnhbdfcfkkaaShiftMath
import Derived.Deep.RegionHeld3
namespace Go.Proofs.Ytdkdnhbdfcfkkaa
open Go.RowKit

theorem at_app {a s p : ByteArray} {x : Nat} : Wm.At (byt (a ++ s)) (byt p) p.size (a.size + x) ↔ Wm.At (byt s) (byt p) p.size x := by
  unfold Wm.At
  have e : ∀ t, byt (a ++ s) (a.size + x + t) = byt s (x + t) := by
    intro t
    rw [byt_app, Wm.cat_ge (by omega)]
    congr 1; omega
  constructor
  · intro h t ht; rw [h t ht, e t]
  · intro h t ht; rw [h t ht, e t]
theorem stands_app {a s p : ByteArray} {x : Nat} (h : Stands s p x) : Stands (a ++ s) p (x + a.size) := by
  have := h.1
  refine ⟨by rw [size_app]; omega, ?_⟩
  rw [Nat.add_comm]
  exact at_app.2 h.2
/-- The places in the whole that are not ahead of s. -/
def late (A : Nat) (l : List Int) : Nat := (l.filter fun x => decide ((A : Int) ≤ x)).length
theorem late_take {A j : Nat} {l : List Int} (h : j < l.length) : late A (l.take (j + 1)) = late A (l.take j) + if (A : Int) ≤ l.getD j 0 then 1 else 0 := by
  unfold late
  rw [← List.take_append_getElem h, List.filter_append, List.length_append]
  congr 1
  rw [List.getD_eq_getElem?_getD, List.getElem?_eq_getElem h, Option.getD_some]
  by_cases hh : (A : Int) ≤ l[j]
  · rw [if_pos hh]; simp [hh]
  · rw [if_neg hh]; simp [hh]
theorem late_le (A : Nat) (l : List Int) : late A l ≤ l.length := List.length_filter_le _ _
theorem late_app (a s p : ByteArray) : late a.size (fiL (a ++ s) p) = (fiL s p).length := by
  unfold late fiL ocL
  rw [List.filter_map, List.length_map, List.length_map]
  have e : ((fun x : Int => decide ((a.size : Int) ≤ x)) ∘ fun (d : Nat) => (d : Int)) = fun x : Nat => decide (a.size ≤ x) := by
    funext x
    simp only [Function.comp]
    congr 1
    exact propext (by omega)
  rw [e, size_app]
  by_cases hk : p.size ≤ s.size
  · rw [show a.size + s.size + 1 - p.size = a.size + (s.size + 1 - p.size) by omega, Wm.oc_shift (f := byt s) (fun x _ => at_app), List.length_map]
  · rw [Wm.oc_before (by omega), show s.size + 1 - p.size = 0 by omega]
    rfl
theorem at_back {s p : ByteArray} {x : Nat} (hx : x + p.size ≤ s.size) : Wm.At (byt (backS s)) (byt (backS p)) p.size (s.size - p.size - x) ↔ Wm.At (byt s) (byt p) p.size x := by
  have e : ∀ t, t < p.size → (byt (backS p) t = byt (backS s) (s.size - p.size - x + t) ↔ byt p (p.size - 1 - t) = byt s (x + (p.size - 1 - t))) := by
    intro t ht
    rw [backS_byt ht, backS_byt (by omega)]
    rw [show s.size - 1 - (s.size - p.size - x + t) = x + (p.size - 1 - t) by omega]
  unfold Wm.At
  constructor
  · intro h t ht
    have := (e (p.size - 1 - t) (by omega)).1 (h _ (by omega))
    rwa [show p.size - 1 - (p.size - 1 - t) = t by omega] at this
  · intro h t ht
    exact (e t ht).2 (h _ (by omega))
theorem stands_back {s p : ByteArray} {x : Nat} (h : Stands s p x) : Stands (backS s) (backS p) (s.size - p.size - x) := by
  have h1 := h.1
  unfold Stands
  rw [backS_size, backS_size]
  exact ⟨by omega, (at_back h1).2 h.2⟩
theorem len_back (s p : ByteArray) : (fiL (backS s) (backS p)).length = (fiL s p).length := by
  unfold fiL ocL
  rw [List.length_map, List.length_map, backS_size, backS_size]
  refine Wm.oc_back fun x hx => ?_
  rw [show s.size + 1 - p.size - 1 - x = s.size - p.size - x by omega]
  exact at_back (by omega)
theorem findErr_same {s s' p p' : ByteArray} (h : s.size ≤ 200) (h' : s'.size ≤ 200) (e : p.size = p'.size) : findErr s p = findErr s' p' := by
  unfold findErr
  rw [if_neg (show ¬ 200 < s.size by omega), if_neg (show ¬ 200 < s'.size by omega), e]

set_option maxHeartbeats 1000000 in
theorem seekShift_err (a s p : ByteArray) (w : World) (hp : p.size ≤ maxLen) (h : findErr (cutS s 120) p ≠ 0) :
    Calls Try.prog 6 #[.string a, .string s, .string p] w fun e w' => e = .returned (.bool true) ∧ Below w.heap.size w w' := by
  have ha := (cutS_size a 60).1
  have hs := (cutS_size s 120).1
  have hm : 120 ≤ maxLen := by decide
  have hm2 : 60 ≤ maxLen := by decide
  obtain ⟨x, hx⟩ : ∃ x, x = cutS a 60 := ⟨_, rfl⟩
  obtain ⟨y, hy⟩ : ∃ y, y = cutS s 120 := ⟨_, rfl⟩
  rw [← hx] at ha
  rw [← hy] at hs h
  have HX := hid hx
  have HY := hid hy
  clear hx hy
  have hys : y.size ≤ maxLen := by unfold maxLen; omega
  obtain ⟨v, hv⟩ : ∃ v, v = findErr y p := ⟨_, rfl⟩
  have e1 := findErr_same (s := x ++ y) (s' := y) (p := p) (p' := p) (by rw [size_app]; omega) (by omega) rfl
  have e2 := findErr_same (s := backS y) (s' := y) (p := backS p) (p' := p) (by rw [backS_size]; omega) (by omega) (backS_size p)
  rw [← hv] at e1 e2 h
  have HV := hid hv
  have E1 := hid e1
  have E2 := hid e2
  have hv0 : (v != 0) = true := by simp [h]
  have H := hid h
  have hadd := fun W : World => run_string_add_sum (P := Try.prog) W x y (by omega)
  clear hv e1 e2 h
  go_enter Try.func6, Try.ntmps6
  go_wp2_with fail
  with_reducible refine (seeks_any _).mono ?_
  rintro e w1 ⟨rfl, hb1⟩
  go_wp2_with fail
  refine (cut_any a 60 _ hm2).mono ?_
  rw [← HX.out]
  rintro e w1' ⟨rfl, rfl⟩
  go_wp2_with fail
  refine (cut_any s 120 _ hm).mono ?_
  rw [← HY.out]
  rintro e w1' ⟨rfl, rfl⟩
  go_wp2_with fail
  with_reducible refine (Find_err y p _ (by rw [← HV.out]; exact H.out)).mono ?_
  rw [← HV.out]
  rintro e w2 ⟨rfl, hb2⟩
  go_wp2_with fail
  with_reducible refine (Find_err (x ++ y) p _ (by rw [E1.out]; exact H.out)).mono ?_
  rw [E1.out]
  rintro e w3 ⟨rfl, hb3⟩
  have hb4 := hid (bl_then (bl_then hb1 hb2) hb3)
  clear hb1 hb2 hb3 hadd
  go_wp2_with fail
  with_reducible refine (back_any y _ hys).mono ?_
  rintro e w4 ⟨rfl, hb5⟩
  go_wp2_with fail
  with_reducible refine (back_any p _ hp).mono ?_
  rintro e w5 ⟨rfl, hb6⟩
  go_wp2_with fail
  with_reducible refine (Find_err (backS y) (backS p) _ (by rw [E2.out]; exact H.out)).mono ?_
  rw [E2.out]
  rintro e w6 ⟨rfl, hb7⟩
  have hfin := hid (bl_then (bl_then (bl_then hb4.out hb5) hb6) hb7)
  clear hb4 hb5 hb6 hb7
  go_wp2
  go_ret
  exact ⟨rfl, hfin.out⟩

set_option maxHeartbeats 1000000 in
theorem seekShift_ok (a s p : ByteArray) (w : World) (h : findErr (cutS s 120) p = 0) :
    Calls Try.prog 6 #[.string a, .string s, .string p] w fun e w' => e = .returned (.bool true) ∧ Below w.heap.size w w' := by
  have ha := (cutS_size a 60).1
  have hs := (cutS_size s 120).1
  have hm : 120 ≤ maxLen := by decide
  have hm2 : 60 ≤ maxLen := by decide
  obtain ⟨x, hx⟩ : ∃ x, x = cutS a 60 := ⟨_, rfl⟩
  obtain ⟨y, hy⟩ : ∃ y, y = cutS s 120 := ⟨_, rfl⟩
  rw [← hx] at ha
  rw [← hy] at hs h
  have HX := hid hx
  have HY := hid hy
  clear hx hy
  obtain ⟨hy2, hp2, h0⟩ := findErr_ok h
  have hys : y.size ≤ maxLen := by unfold maxLen; omega
  have hpm : p.size ≤ maxLen := by unfold maxLen; omega
  have hxy : (x ++ y).size ≤ 200 := by rw [size_app]; omega
  have hby : (backS y).size ≤ 200 := by rw [backS_size]; omega
  have hbp : (backS p).size ≤ 200 := by rw [backS_size]; omega
  have hbp0 : 0 < (backS p).size := by rw [backS_size]; omega
  have hl1 := fiL_len (s := y) h0
  have hl2 := fiL_len (s := x ++ y) h0
  have hlate := late_app x y p
  have hback := len_back y p
  have hfindA : ∀ k, k < (fiL y p).length → ∃ z : Nat, (fiL y p).getD k 0 = (z : Int) ∧ z + p.size ≤ y.size ∧ (∃ j, j < (fiL (x ++ y) p).length ∧ (fiL (x ++ y) p).getD j 0 = (z : Int) + (x.size : Int)) ∧ (∃ j, j < (fiL (backS y) (backS p)).length ∧ (fiL (backS y) (backS p)).getD j 0 = (y.size : Int) - (p.size : Int) - (z : Int)) := by
    intro k hk
    obtain ⟨z, hz, hst⟩ := fiL_get hk
    have hst1 := hst.1
    refine ⟨z, hz, hst1, ?_, ?_⟩
    · obtain ⟨j, h1, h2⟩ := fiL_find (stands_app (a := x) hst)
      exact ⟨j, h1, by rw [h2]; omega⟩
    · obtain ⟨j, h1, h2⟩ := fiL_find (stands_back hst)
      exact ⟨j, h1, by rw [h2]; omega⟩
  rw [size_app] at hl2
  have hnn : ∀ k, k < (fiL (x ++ y) p).length → ∃ z : Nat, (fiL (x ++ y) p).getD k 0 = (z : Int) ∧ z ≤ 200 := by
    intro k hk
    obtain ⟨z, hz, hst⟩ := fiL_get hk
    have := hst.1
    exact ⟨z, hz, by omega⟩
  obtain ⟨L, hL⟩ : ∃ L, L = fiL y p := ⟨_, rfl⟩
  obtain ⟨M, hM⟩ : ∃ M, M = fiL (x ++ y) p := ⟨_, rfl⟩
  obtain ⟨N, hN⟩ : ∃ N, N = fiL (backS y) (backS p) := ⟨_, rfl⟩
  rw [← hL] at hl1 hback hlate hfindA
  rw [← hM] at hl2 hlate hfindA hnn
  rw [← hN] at hback hfindA
  rw [hback] at hfindA
  have HBACK := hid hback
  have HL := hid hL
  have HM := hid hM
  have HN := hid hN
  have HA := hid hfindA
  have HNN := hid hnn
  have HLATE := hid hlate
  have hadd := fun W : World => run_string_add_sum (P := Try.prog) W x y (by omega)
  have hMm : M.length ≤ maxLen := by unfold maxLen; omega
  have hLm : L.length ≤ maxLen := by unfold maxLen; omega
  clear h hL hM hN hfindA hlate hnn hback
  go_enter Try.func6, Try.ntmps6
  go_wp2_with fail
  with_reducible refine (seeks_any _).mono ?_
  rintro e w1 ⟨rfl, hb1⟩
  go_wp2_with fail
  refine (cut_any a 60 _ hm2).mono ?_
  rw [← HX.out]
  rintro e w1' ⟨rfl, rfl⟩
  go_wp2_with fail
  refine (cut_any s 120 _ hm).mono ?_
  rw [← HY.out]
  rintro e w1' ⟨rfl, rfl⟩
  go_wp2_with fail
  with_reducible refine (Find_ok y p _ hy2 hp2 h0).mono ?_
  rw [← HL.out]
  rintro e w2 ⟨A2, c2, rfl, hr2, hb2⟩
  have R2 := hid hr2
  clear hr2
  go_wp2_with fail
  with_reducible refine (Find_ok (x ++ y) p _ hxy hp2 h0).mono ?_
  rw [← HM.out]
  rintro e w3 ⟨A3, c3, rfl, hr3, hb3⟩
  have R2' := hid (R2.out.keep hb3)
  have R3 := hid hr3
  have hb4 := hid (bl_then (bl_then hb1 hb2) hb3)
  clear hr3 R2 hb1 hb2 hb3 hadd
  go_wp2_with fail
  with_reducible refine (back_any y _ hys).mono ?_
  rintro e w4 ⟨rfl, hb5⟩
  go_wp2_with fail
  with_reducible refine (back_any p _ hpm).mono ?_
  rintro e w5 ⟨rfl, hb6⟩
  go_wp2_with fail
  with_reducible refine (Find_ok (backS y) (backS p) _ hby hbp hbp0).mono ?_
  rw [← HN.out, HBACK.out]
  rintro e w6 ⟨A6, c6, rfl, hr6, hb7⟩
  have hb36 := bl_then (bl_then hb5 hb6) hb7
  have S2 := hid (R2'.out.keep hb36)
  have S3 := hid (R3.out.keep hb36)
  have S6 := hid hr6
  have hfin := hid (bl_then hb4.out hb36)
  clear R2' R3 hr6 hb4 hb5 hb6 hb7 hb36
  go_wp2
  go_loop [58] (fun x => ∃ k : Nat, k ≤ L.length ∧ x = .int .i64 k) (fun x => L.length - (intOf x).toNat)
  case atStart => exact ⟨0, Nat.zero_le _, rfl⟩
  case round =>
    obtain ⟨k, hk, rfl⟩ := hrel
    by_cases hlt : k < L.length
    · obtain ⟨b, o, rfl, _, hc⟩ := S2.out.at_ hlt
      obtain ⟨z, hz, hzs, hA, hB⟩ := HA.out k hlt
      rw [hz] at hc
      have HA1 := hid hA
      have HB1 := hid hB
      have hlt' : (k : Int) < (L.length : Int) := by omega
      clear hz hA hB
      go_wp2_with fail
      with_reducible refine (contains_yes S3.out hMm HA1.out).mono ?_
      rintro e w7 ⟨rfl, rfl⟩
      go_wp2_with fail
      with_reducible refine (contains_yes S6.out hLm HB1.out).mono ?_
      rintro e w7 ⟨rfl, rfl⟩
      go_wp2
      go_round
      case rel => exact ⟨k + 1, by omega, by go_num⟩
      case measure => simp [intOf]; omega
    · go_wp2
      go_loop [15, 84] (fun u v => ∃ j c : Nat, j ≤ M.length ∧ c ≤ j ∧ u = .int .i64 c ∧ v = .int .i64 j ∧ Hid (c = late x.size (M.take j))) (fun _ v => M.length - (intOf v).toNat)
      case atStart => exact ⟨0, 0, by omega, by omega, rfl, rfl, rfl⟩
      case round =>
        obtain ⟨j, c, hj, hcj, rfl, rfl, hcl⟩ := hrel
        by_cases hlt2 : j < M.length
        · obtain ⟨b, o, rfl, _, hc⟩ := S3.out.at_ hlt2
          obtain ⟨z, hz, hz2⟩ := HNN.out j hlt2
          have hst := late_take (A := x.size) hlt2
          rw [← hcl.out, hz] at hst
          rw [hz] at hc
          have hlt' : (j : Int) < (M.length : Int) := by omega
          clear hz
          by_cases hle : x.size ≤ z
          · rw [if_pos (show (x.size : Int) ≤ (z : Int) by omega)] at hst
            have HST := hid hst
            have hge : decide ((x.size : Int) ≤ (z : Int)) = true := by simp; omega
            clear hst
            go_wp2
            go_round
            case rel => exact ⟨j + 1, c + 1, by omega, by omega, by go_num, by go_num, HST.out.symm⟩
            case measure => simp [intOf]; omega
          · rw [if_neg (show ¬ (x.size : Int) ≤ (z : Int) by omega)] at hst
            have HST := hid hst
            have hge : decide ((x.size : Int) ≤ (z : Int)) = false := by simp; omega
            clear hst
            go_wp2
            go_round
            case rel => exact ⟨j + 1, c, by omega, by omega, rfl, by go_num, HST.out.symm⟩
            case measure => simp [intOf]; omega
        · have hcL : c = L.length := by
            have h1 := hcl.out
            rw [List.take_of_length_le (by omega), HLATE.out] at h1
            exact h1
          subst hcL
          go_wp2_with fail
          with_reducible refine (good_ok _ 2 2 _ (by omega) (two_zeros _ _)).mono ?_
          rintro e w7 ⟨rfl, rfl⟩
          go_wp2
          go_ret
          exact ⟨rfl, bl_then hfin.out (bl_new w6 _)⟩

theorem seekShift_walk (a s p : ByteArray) (_ : a.size ≤ maxLen) (_ : s.size ≤ maxLen) (hp : p.size ≤ maxLen) (w : World) :
    Calls Try.prog 6 #[.string a, .string s, .string p] w fun e w' => e = .returned (.bool true) ∧ Below w.heap.size w w' := by
  by_cases h : findErr (cutS s 120) p = 0
  · exact seekShift_ok a s p w h
  · exact seekShift_err a s p w hp h
end Go.Proofs.Ytdkdnhbdfcfkkaa
