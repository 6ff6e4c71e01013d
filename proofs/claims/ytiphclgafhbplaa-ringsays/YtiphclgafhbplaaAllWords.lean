/-
The contract of quillref.AllWords: all words of n letters, in their order.
-/
import Derived.Test.YtiphclgafhbplaaLineMath
import Derived.Test.YtiphclgafhbplaaStrLib
import Derived.Test.YtiphclgafhbplaaOwnB
import Derived.Test.YtiphclgafhbplaaRCounts
namespace Go.Proofs.Ytiphclgafhbplaa
open Go.RowKit

namespace Rm
/-- d with each of the first m letters behind it. -/
def ext (m : Nat) (d : List Nat) : List (List Nat) := (List.range m).map fun c => d ++ [c]
/-- All words of n letters. -/
def allW (k : Nat) : Nat → List (List Nat)
  | 0 => [[]]
  | n + 1 => (allW k n).flatMap (ext k)
theorem ext_len (m : Nat) (d : List Nat) : (ext m d).length = m := by unfold ext; simp
theorem ext_succ (m : Nat) (d : List Nat) : ext (m + 1) d = ext m d ++ [d ++ [m]] := by unfold ext; rw [List.range_succ, List.map_append]; rfl
theorem flat_len (m : Nat) : ∀ l : List (List Nat), (l.flatMap (ext m)).length = l.length * m
  | [] => by simp
  | d :: r => by rw [List.flatMap_cons, List.length_append, ext_len, flat_len m r, List.length_cons, Nat.add_mul]; omega
theorem allW_len (k : Nat) : ∀ n, (allW k n).length = k ^ n
  | 0 => rfl
  | n + 1 => by rw [allW, flat_len, allW_len k n, Nat.pow_succ]
theorem allW_word (k : Nat) : ∀ n d, d ∈ allW k n → d.length = n ∧ ∀ x, x ∈ d → x < k
  | 0, d, h => by
    simp [allW] at h
    subst h
    exact ⟨rfl, fun x hx => by simp at hx⟩
  | n + 1, d, h => by
    rw [allW] at h
    obtain ⟨e, he, hd⟩ := List.mem_flatMap.1 h
    obtain ⟨h1, h2⟩ := allW_word k n e he
    unfold ext at hd
    obtain ⟨c, hc, rfl⟩ := List.mem_map.1 hd
    refine ⟨by rw [List.length_append, h1]; rfl, fun x hx => ?_⟩
    rcases List.mem_append.1 hx with hx | hx
    · exact h2 x hx
    · simp at hx
      rw [hx]
      exact List.mem_range.1 hc
theorem take_flat {l : List (List Nat)} {j m : Nat} (hj : j < l.length) : (l.take (j + 1)).flatMap (ext m) = (l.take j).flatMap (ext m) ++ ext m (l.getD j []) := by
  rw [List.take_add_one, List.flatMap_append, List.getElem?_eq_getElem hj, getD_lt hj]
  simp
end Rm
theorem sd_one (d : List Nat) (c : Nat) : sd d ++ strOfNums [97 + (c : Int)] = sd (d ++ [c]) := by
  refine wd_inj ?_
  rw [wd_app, sd_app]
  rfl
theorem own_le {w : World} {base base' : Nat} {v : Value} {N : List ByteArray} (h : OwnS w base v N) (hb : base' ≤ base) : OwnS w base' v N := by
  refine ⟨h.1, ?_⟩
  rcases h.2 with hn | ⟨g, cap, cur, h1, h2, h3⟩
  · exact .inl hn
  · exact .inr ⟨g, cap, cur, h1, Nat.le_trans hb h2, h3⟩
theorem one_cell (w : World) (x : Int) (t : TypeId) : ∀ i, i < 1 → (w.alloc (.cells #[.int .u8 x] t)).cell? ⟨w.heap.size, 0 + i, none⟩ = some (.int .u8 (([x] : List Int).getD i 0)) := by
  intro i hi
  obtain rfl : i = 0 := by omega
  simp
theorem OwnS.lit1 (w : World) (base : Nat) (x : ByteArray) (hb : base ≤ w.heap.size) (N : Nat) (hN : w.heap.size = N) : OwnS (w.alloc (.cells #[.string x] 9)) base (.slice (some ⟨N, 0, none⟩) 1 1) [x] := by
  subst hN
  exact ⟨rfl, .inr ⟨w.heap.size, 1, #[.string x], rfl, hb, heap_alloc_new w _, by simp, by unfold maxLen; omega, rfl, rfl⟩⟩
set_option maxHeartbeats 2000000 in
theorem allWords_ok (k n : Nat) (w : World) (h : Rm.Ok k n) :
    Calls Try.prog 17 #[.int .i64 (k : Int), .int .i64 (n : Int)] w fun e w' => (∃ v, e = .returned v ∧ OwnS w' w.heap.size v ((Rm.allW k n).map sd)) ∧ Below w.heap.size w w' := by
  have hk1 := h.k1
  have hk8 := h.k8
  have hn1 := h.n1
  have hn5 := h.n5
  have HO := hid h
  clear h
  go_enter Try.func17, Try.ntmps17
  go_wp2
  have HL := hid (OwnS.lit1 w w.heap.size ⟨#[]⟩ (Nat.le_refl _) w.heap.size rfl)
  have HB0 := hid (bl_new w (.cells #[.string ⟨#[]⟩] 9))
  go_loopw [5, 12] (fun x y wr => ∃ i : Nat, i ≤ n ∧ y = .int .i64 (i : Int) ∧ Hid (OwnS wr w.heap.size x ((Rm.allW k i).map sd)) ∧ Hid (Below w.heap.size w wr)) (fun _ y _ => n - (intOf y).toNat)
  case atStart => exact ⟨0, by omega, rfl, HL, HB0⟩
  case round =>
    clear HL HB0
    obtain ⟨i, hi, rfl, HOW, HB⟩ := hrel
    by_cases hlt : i < n
    · obtain ⟨A, cp, hv, hcp, hrow⟩ := HOW.out.row
      subst hv
      have hlen := Rm.allW_len k i
      have hfew : k ^ i ≤ 512 := Nat.le_trans (Rm.pow_mono hk1 (Nat.le_of_lt hlt)) HO.out.few
      obtain ⟨W, hW⟩ : ∃ W, W = Rm.allW k i := ⟨_, rfl⟩
      have HW := hid (show Rm.allW k (i + 1) = W.flatMap (Rm.ext k) by rw [hW]; rfl)
      rw [← hW] at hlen hrow
      rw [← hW]
      have HWM := hid (fun d (hd : d ∈ W) => Rm.allW_word k i d (by rw [← hW]; exact hd))
      clear hW HOW
      rw [List.length_map] at hrow ⊢
      obtain ⟨M, hM⟩ : ∃ M, M = W.length := ⟨_, rfl⟩
      rw [← hM] at hrow ⊢
      have hM5 : M ≤ 512 := by omega
      have HM := hid hM
      have HROW := hid (hrow.congr (g' := fun j => sd (W.getD j [])) fun j hj => by
        have hj' : j < W.length := by omega
        rw [getD_lt (by rw [List.length_map]; exact hj'), getD_lt hj', List.getElem_map])
      obtain ⟨w1, hw1⟩ : ∃ w1, w1 = wr := ⟨_, rfl⟩
      have HW1 := hid hw1
      rw [← hw1] at HROW
      have hsz1 := HB.out.size
      rw [← hw1] at hsz1 HB
      clear hrow hM hlen hw1
      go_wp2
      go_loopw [6, 16] (fun x y wr => ∃ j : Nat, j ≤ M ∧ y = .int .i64 (j : Int) ∧ Hid (OwnS wr w1.heap.size x (((W.take j).flatMap (Rm.ext k)).map sd)) ∧ Hid (Below w1.heap.size w1 wr)) (fun _ y _ => M - (intOf y).toNat)
      case atStart => exact ⟨0, by omega, rfl, hid (by simp; exact OwnS.zero _ _), hid (by rw [← HW1.out]; exact Below.refl _ _)⟩
      case round =>
        obtain ⟨j, hj, rfl, HON, HBN⟩ := hrel
        by_cases hjM : j < M
        · have hjM' : (j : Int) < (M : Int) := by omega
          obtain ⟨b, o, rfl, hblt, hcj⟩ := (HROW.out.keep HBN.out) j hjM
          obtain ⟨d, hd⟩ : ∃ d, d = W.getD j [] := ⟨_, rfl⟩
          try simp only at hcj
          rw [← hd] at hcj
          have hjl : j < W.length := by rw [← HM.out]; exact hjM
          have hdm : d ∈ W := by rw [hd, getD_lt hjl]; exact List.getElem_mem hjl
          have hdl := (HWM.out d hdm).1
          have HNX := hid (show (W.take (j + 1)).flatMap (Rm.ext k) = (W.take j).flatMap (Rm.ext k) ++ Rm.ext k d by rw [Rm.take_flat hjl, hd])
          have hfl := Rm.flat_len k (W.take j)
          have hfl2 : ((W.take j).flatMap (Rm.ext k)).length ≤ 512 * 8 := by
            rw [hfl, List.length_take]
            exact Nat.mul_le_mul (by omega) hk8
          have hds : (sd d).size ≤ 512 := by rw [sd_size]; omega
          obtain ⟨X, hX⟩ : ∃ X, X = (W.take j).flatMap (Rm.ext k) := ⟨_, rfl⟩
          rw [← hX] at HNX hfl2 HON
          have HX := hid hX
          clear hd hdm hfl hX
          go_wp2
          go_loopw [6, 21] (fun x y wr => ∃ c : Nat, c ≤ k ∧ y = .int .i64 (c : Int) ∧ Hid (OwnS wr w1.heap.size x ((X ++ Rm.ext c d).map sd)) ∧ Hid (Below w1.heap.size w1 wr)) (fun _ y _ => k - (intOf y).toNat)
          case atStart => exact ⟨0, by omega, rfl, hid (by rw [show Rm.ext 0 d = [] from rfl, List.append_nil]; exact HON.out), HBN⟩
          case round =>
            clear HON HBN hcj
            obtain ⟨c, hc, rfl, HON, HBN⟩ := hrel
            by_cases hck : c < k
            · have hck' : (c : Int) < (k : Int) := by omega
              have hwc : IntKind.u8.wrap (c : Int) = (c : Int) := IntWalk.u8_in _ (by omega)
              have hwc2 : IntKind.u8.wrap (97 + (c : Int)) = 97 + (c : Int) := IntWalk.u8_in _ (by omega)
              have hcv := run_convert_bytes_arg (P := Try.prog) (wr.alloc (.cells #[.int .u8 (97 + (c : Int))] 5)) 33 5 Try.underlying33 Try.underlying5 wr.heap.size 0 1 1 [97 + (c : Int)] rfl (one_cell wr _ _) 9 Try.underlying9
              have hss : (strOfNums [97 + (c : Int)]).size = 1 := by rw [strOfNums_size]; rfl
              have hadd := fun W : World => run_string_add_sum (P := Try.prog) W (sd d) (strOfNums [97 + (c : Int)]) (by omega)
              rw [sd_one] at hadd
              generalize strOfNums [97 + (c : Int)] = s1 at hcv hadd hss
              have HON1 := hid (HON.out.below (bl_new wr (.cells #[.int .u8 (97 + (c : Int))] 5)))
              have hbz := HBN.out.size
              have hbn1 := HBN.out.alloc hbz (.cells #[.int .u8 (97 + (c : Int))] 5)
              have hsz2 : w1.heap.size ≤ (wr.alloc (.cells #[.int .u8 (97 + (c : Int))] 5)).heap.size := hbn1.size
              have HBN1 := hid hbn1
              have hXl : ((X ++ Rm.ext c d).map sd).length < 1000000 := by rw [List.length_map, List.length_append, Rm.ext_len]; omega
              have HE : Hid ((X ++ Rm.ext (c + 1) d).map sd = (X ++ Rm.ext c d).map sd ++ [sd (d ++ [c])]) := by
                show _ = _
                rw [Rm.ext_succ, ← List.append_assoc, List.map_append]
                rfl
              clear hbn1 HON HBN
              obtain ⟨Y, hY⟩ : ∃ Y, Y = (X ++ Rm.ext c d).map sd := ⟨_, rfl⟩
              rw [← hY] at HE hXl HON1
              clear hY
              go_wp2_with (at_builtin; with_reducible refine app_str (wr := wr.alloc (.cells #[.int .u8 (97 + (c : Int))] 5)) rfl _ _ rfl rfl HON1.out _ rfl (by simp [Act.eval]) hsz2 hXl ?_)
              intro v' w4 hown hb4
              rw [← HE.out] at hown
              have HO4 := hid hown
              have HB4 := hid (HBN1.out.trans hb4)
              clear hown hb4 HON1 HBN1
              go_wp2
              go_roundw
              case measure => simp [intOf]; omega
              case rel => exact ⟨c + 1, by omega, by go_num, HO4, HB4⟩
            · have dl : decide ((c : Int) < (k : Int)) = false := decide_eq_false (by omega)
              obtain rfl : k = c := by omega
              rw [← HNX.out] at HON
              go_wp2
              go_roundw
              case measure => simp [intOf]; omega
              case rel => exact ⟨j + 1, by omega, by go_num, HON, HBN⟩
        · have dl : decide ((j : Int) < (M : Int)) = false := decide_eq_false (by omega)
          have HON2 : Hid (OwnS wr w.heap.size _ ((Rm.allW k (i + 1)).map sd)) := hid (by
            have := HON.out
            rw [List.take_of_length_le (by rw [← HM.out]; omega), ← HW.out] at this
            exact own_le this hsz1)
          have HB2 := hid (bl_then HB.out HBN.out)
          clear HON HBN
          go_wp2
          go_roundw
          case measure => simp [intOf]; omega
          case rel => exact ⟨i + 1, by omega, by go_num, HON2, HB2⟩
    · have dl : decide ((i : Int) < (n : Int)) = false := decide_eq_false (by omega)
      obtain rfl : n = i := by omega
      go_wp2
      go_ret
      exact ⟨⟨_, rfl, HOW.out⟩, HB.out⟩
end Go.Proofs.Ytiphclgafhbplaa
