/-
The walk of quilllaw.SeekSays: it returns true for all strings.
-/
import Derived.Test.YtdkdnhbdfcfkkaaDoorFronts
import Derived.Test.YtdkdnhbdfcfkkaaDoorPutLib
import Derived.Test.YtdkdnhbdfcfkkaaDoorLong
import Derived.Test.YtdkdnhbdfcfkkaaDoorAlike
import Derived.Test.YtdkdnhbdfcfkkaaDoorRefSeek
import Derived.Test.YtdkdnhbdfcfkkaaDoorShelfR
import Derived.Deep.RegionHeld3
namespace Go.Proofs.YtdkdnhbdfcfkkaaDoor
open Go.RowKit

theorem alike_front {s : ByteArray} {i : Nat} (hi : i ≤ s.size) : Wm.zg (byt s) (byt (s.extract i s.size)) (s.extract i s.size).size 0 = Wm.zf (byt s) s.size i := by
  unfold Wm.zf
  have hz : (s.extract i s.size).size = s.size - i := by rw [size_ext]; omega
  rw [hz]
  refine zg_congr _ _ fun t ht => ?_
  rw [byt_ext (by omega)]

set_option maxRecDepth 100000 in
theorem seekSays_large (s p b : ByteArray) (w : World) (hs : 200 < s.size) :
    Calls Tryd.prog 3 #[.string s, .string p, .string b] w fun e w' => e = .returned (.bool true) ∧ Below w.heap.size w w' := by
  have hfe : findErr s p = 2 := by unfold findErr; rw [if_pos hs]
  have HFE := hid hfe
  clear hfe
  go_enter Tryd.func3, Tryd.ntmps3
  go_wp2_with fail
  with_reducible refine (Find_err s p _ (by rw [HFE.out]; decide)).mono ?_
  rw [HFE.out]
  rintro e w1 ⟨rfl, hb1⟩
  go_wp2_with fail
  with_reducible refine (Fronts_large s _ hs).mono ?_
  rintro e w1' ⟨rfl, rfl⟩
  go_wp2_with fail
  with_reducible refine (Put_err s p b _ (by rw [HFE.out]; decide)).mono ?_
  rw [HFE.out]
  rintro e w2 ⟨rfl, hb2⟩
  go_wp2_with fail
  with_reducible refine (long_large s _ _ (new_cell _ _ _) hs).mono ?_
  rintro e w3 ⟨rfl, rfl⟩
  go_wp2
  go_ret
  exact ⟨rfl, bl_then (bl_then hb1 hb2) (bl_new w2 _)⟩

set_option maxHeartbeats 1000000 in
set_option maxRecDepth 100000 in
theorem seekSays_ok (s p b : ByteArray) (w : World) (m : Int) (hm : w.cell? ⟨0, 0, none⟩ = some (.int .i64 m)) (hw : 0 < w.heap.size) (hs : s.size ≤ 200) (hp : p.size ≤ 200) (h0 : 0 < p.size) (hb : b.size ≤ 200) :
    Calls Tryd.prog 3 #[.string s, .string p, .string b] w fun e w' => e = .returned (.bool true) ∧ Below w.heap.size w w' := by
  have hl := fiL_len (s := s) h0
  obtain ⟨L, hL⟩ : ∃ L, L = fiL s p := ⟨_, rfl⟩
  obtain ⟨T, hT⟩ : ∃ T, T = putS s p b := ⟨_, rfl⟩
  obtain ⟨k, hk⟩ : ∃ k, k = (taken s p).length := ⟨_, rfl⟩
  rw [← hL] at hl
  have hLm : L.length ≤ maxLen := by unfold maxLen; omega
  have htk := taken_len (s := s) h0
  rw [← hk] at htk
  have hk2 : k ≤ 200 := by
    have := Nat.le_mul_of_pos_right k h0
    omega
  have hpe := some_bytes h0
  have HL := hid hL
  have HT := hid hT
  have HK := hid hk
  have HM := hid hm
  clear hL hT hk htk hm
  go_enter Tryd.func3, Tryd.ntmps3
  go_wp2_with fail
  with_reducible refine (Find_ok s p _ hs hp h0).mono ?_
  rw [← HL.out]
  rintro e w1 ⟨A1, c1, rfl, hr1, hb1⟩
  have R1 := hid hr1
  clear hr1
  go_wp2_with fail
  with_reducible refine (Fronts_ok s _ hs).mono ?_
  rintro e w2 ⟨A2, c2, rfl, hr2, hb2⟩
  have R2 := hid hr2
  clear hr2
  go_wp2_with fail
  with_reducible refine (Put_ok s p b _ hs hp h0 hb).mono ?_
  unfold PutOk
  rw [← HT.out, ← HK.out]
  rintro e w3 ⟨rfl, hb3⟩
  have S1 := hid (((R1.out.keep hb2).keep hb3).alloc (.cells #[.string s] 9))
  have S2 := hid ((R2.out.keep hb3).alloc (.cells #[.string s] 9))
  have hbA := hid (bl_then (bl_then (bl_then hb1 hb2) hb3) (bl_new w3 (.cells #[.string s] 9)))
  clear R1 R2 hb1 hb2 hb3
  go_wp2_with fail
  with_reducible refine (long_ok s _ _ (new_cell _ _ _) hs).mono ?_
  rintro e w4 ⟨rfl, rfl⟩
  generalize w3.alloc (.cells #[.string s] 9) = w4 at *
  go_wp2
  go_loopw [82] (fun x wr => ∃ i : Nat, i ≤ s.size ∧ x = .int .i64 i ∧ ∃ d, wr = w4.drewN d) (fun x _ => s.size - (intOf x).toNat)
  case atStart => exact ⟨0, Nat.zero_le _, rfl, 0, rfl⟩
  case round =>
    obtain ⟨i, hi, rfl, d, rfl⟩ := hrel
    by_cases hlt : i < s.size
    · obtain ⟨b2, o2, rfl, _, hc⟩ := S2.out.at_ hlt
      have hi' : (i : Int) < (s.size : Int) := by omega
      have hez : (s.extract i s.size).size ≤ s.size := by rw [size_ext]; omega
      have hal := alike_front (s := s) hi
      obtain ⟨v, hv⟩ : ∃ v, v = Wm.zf (byt s) s.size i := ⟨_, rfl⟩
      rw [← hv] at hc hal
      have HAL := hid hal
      clear hv hal
      go_wp2_with fail
      with_reducible refine (refAlike_any s (s.extract i s.size) _ hs hez).mono ?_
      rw [HAL.out]
      rintro e w5 ⟨rfl, d5, rfl⟩
      go_wp2
      go_roundw
      case rel => exact ⟨i + 1, by omega, by go_num, _, rfl⟩
      case measure => simp [intOf]; omega
    · have hbB := hid (bl_drewN hbA.out d)
      have T1 := hid (S1.out.drewN d)
      generalize w4.drewN d = w5 at *
      go_wp2_with fail
      with_reducible refine (long_ok p _ _ (new_cell _ _ _) hp).mono ?_
      rintro e w6 ⟨rfl, rfl⟩
      have hbC := hid (bl_then hbB.out (bl_new w5 (.cells #[.string p] 9)))
      have T2 := hid (T1.out.alloc (.cells #[.string p] 9))
      generalize w5.alloc (.cells #[.string p] 9) = w6 at *
      clear T1 hbB S1 S2 hbA
      go_wp2_with fail
      with_reducible refine (findOf_any s p _ hs hp h0).mono ?_
      rw [← HL.out]
      rintro e w7 ⟨A7, c7, rfl, hr7, hb7⟩
      have T3 := hid (T2.out.keep hb7)
      have R7 := hid hr7
      have hA : eqB L.length L.length (fun k => L.getD k 0) (fun k => L.getD k 0) = true := eqB_true.2 ⟨rfl, fun _ _ => rfl⟩
      clear hr7 T2
      go_wp2_with fail
      with_reducible refine (alike_any T3.out R7.out hLm hLm).mono ?_
      rw [hA]
      rintro e w8 ⟨rfl, hd8⟩
      have hbD := hid (bl_then (bl_then (bl_then hbC.out hb7) (hd8.below _)) (bl_new w8 (.cells #[.string b] 9)))
      clear hd8 hA T3 R7 hb7 hbC
      go_wp2_with fail
      with_reducible refine (long_ok b _ _ (new_cell _ _ _) hb).mono ?_
      rintro e w9 ⟨rfl, rfl⟩
      generalize w8.alloc (.cells #[.string b] 9) = w9 at *
      have hm9 : w9.cell? ⟨0, 0, none⟩ = some (.int .i64 m) := (hbD.out.cell (p := ⟨0, 0, none⟩) hw).trans HM.out
      have hlen : s.size + Lib.countB s p * b.size ≤ 140737488355328 := by
        rw [count_taken h0, ← HK.out]
        have := Nat.mul_le_mul hk2 hb
        omega
      have HLEN := hid hlen
      have HM9 := hid hm9
      clear hlen hm9
      go_wp2_with fail
      with_reducible refine (Tryd.strings_ReplaceAll s p b m _ (by omega) HM9.out (by omega) HLEN.out).mono ?_
      rw [replace_taken h0, ← HT.out]
      rintro e w10 ⟨rfl, hb10⟩
      have hbE := hid (bl_then hbD.out hb10)
      have hm10 : w10.cell? ⟨0, 0, none⟩ = some (.int .i64 m) := (hbE.out.cell (p := ⟨0, 0, none⟩) hw).trans HM.out
      have HM10 := hid hm10
      clear hm10 hb10 hbD HM9
      go_wp2_with fail
      with_reducible refine (Tryd.strings_Count_any s p m _ (by omega) HM10.out (by omega)).mono ?_
      rw [count_taken h0, ← HK.out]
      rintro e w11 ⟨rfl, rfl⟩
      go_wp2
      go_ret
      exact ⟨rfl, hbE.out⟩

set_option maxHeartbeats 1000000 in
set_option maxRecDepth 100000 in
theorem seekSays_long (s p b : ByteArray) (w : World) (hs : s.size ≤ 200) (hp : 200 < p.size) :
    Calls Tryd.prog 3 #[.string s, .string p, .string b] w fun e w' => e = .returned (.bool true) ∧ Below w.heap.size w w' := by
  have hfe : findErr s p = 2 := by unfold findErr; rw [if_neg (by omega)]; rw [if_pos hp]
  have HFE := hid hfe
  clear hfe
  go_enter Tryd.func3, Tryd.ntmps3
  go_wp2_with fail
  with_reducible refine (Find_err s p _ (by rw [HFE.out]; decide)).mono ?_
  rw [HFE.out]
  rintro e w1 ⟨rfl, hb1⟩
  go_wp2_with fail
  with_reducible refine (Fronts_ok s _ hs).mono ?_
  rintro e w2 ⟨A2, c2, rfl, hr2, hb2⟩
  have R2 := hid hr2
  clear hr2
  go_wp2_with fail
  with_reducible refine (Put_err s p b _ (by rw [HFE.out]; decide)).mono ?_
  rw [HFE.out]
  rintro e w3 ⟨rfl, hb3⟩
  have S2 := hid ((R2.out.keep hb3).alloc (.cells #[.string s] 9))
  have hbA := hid (bl_then (bl_then (bl_then hb1 hb2) hb3) (bl_new w3 (.cells #[.string s] 9)))
  clear R2 hb1 hb2 hb3
  go_wp2_with fail
  with_reducible refine (long_ok s _ _ (new_cell _ _ _) hs).mono ?_
  rintro e w4 ⟨rfl, rfl⟩
  generalize w3.alloc (.cells #[.string s] 9) = w4 at *
  go_wp2
  go_loopw [82] (fun x wr => ∃ i : Nat, i ≤ s.size ∧ x = .int .i64 i ∧ ∃ d, wr = w4.drewN d) (fun x _ => s.size - (intOf x).toNat)
  case atStart => exact ⟨0, Nat.zero_le _, rfl, 0, rfl⟩
  case round =>
    obtain ⟨i, hi, rfl, d, rfl⟩ := hrel
    by_cases hlt : i < s.size
    · obtain ⟨b2, o2, rfl, _, hc⟩ := S2.out.at_ hlt
      have hi' : (i : Int) < (s.size : Int) := by omega
      have hez : (s.extract i s.size).size ≤ s.size := by rw [size_ext]; omega
      have hal := alike_front (s := s) hi
      obtain ⟨v, hv⟩ : ∃ v, v = Wm.zf (byt s) s.size i := ⟨_, rfl⟩
      rw [← hv] at hc hal
      have HAL := hid hal
      clear hv hal
      go_wp2_with fail
      with_reducible refine (refAlike_any s (s.extract i s.size) _ hs hez).mono ?_
      rw [HAL.out]
      rintro e w5 ⟨rfl, d5, rfl⟩
      go_wp2
      go_roundw
      case rel => exact ⟨i + 1, by omega, by go_num, _, rfl⟩
      case measure => simp [intOf]; omega
    · have hbB := hid (bl_drewN hbA.out d)
      generalize w4.drewN d = w5 at *
      go_wp2_with fail
      with_reducible refine (long_large p _ _ (new_cell _ _ _) hp).mono ?_
      rintro e w6 ⟨rfl, rfl⟩
      have hbC := hid (bl_then hbB.out (bl_new w5 (.cells #[.string p] 9)))
      go_wp2
      go_ret
      exact ⟨rfl, hbC.out⟩

set_option maxHeartbeats 1000000 in
set_option maxRecDepth 100000 in
theorem seekSays_empty (s p b : ByteArray) (w : World) (hs : s.size ≤ 200) (hp : p.size = 0) :
    Calls Tryd.prog 3 #[.string s, .string p, .string b] w fun e w' => e = .returned (.bool true) ∧ Below w.heap.size w w' := by
  have hfe : findErr s p = 5 := by unfold findErr; rw [if_neg (by omega)]; rw [if_neg (by omega), if_pos hp]
  have HFE := hid hfe
  have hpe := no_bytes hp
  have hp2 : p.size ≤ 200 := by omega
  clear hfe
  go_enter Tryd.func3, Tryd.ntmps3
  go_wp2_with fail
  with_reducible refine (Find_err s p _ (by rw [HFE.out]; decide)).mono ?_
  rw [HFE.out]
  rintro e w1 ⟨rfl, hb1⟩
  go_wp2_with fail
  with_reducible refine (Fronts_ok s _ hs).mono ?_
  rintro e w2 ⟨A2, c2, rfl, hr2, hb2⟩
  have R2 := hid hr2
  clear hr2
  go_wp2_with fail
  with_reducible refine (Put_err s p b _ (by rw [HFE.out]; decide)).mono ?_
  rw [HFE.out]
  rintro e w3 ⟨rfl, hb3⟩
  have S2 := hid ((R2.out.keep hb3).alloc (.cells #[.string s] 9))
  have hbA := hid (bl_then (bl_then (bl_then hb1 hb2) hb3) (bl_new w3 (.cells #[.string s] 9)))
  clear R2 hb1 hb2 hb3
  go_wp2_with fail
  with_reducible refine (long_ok s _ _ (new_cell _ _ _) hs).mono ?_
  rintro e w4 ⟨rfl, rfl⟩
  generalize w3.alloc (.cells #[.string s] 9) = w4 at *
  go_wp2
  go_loopw [82] (fun x wr => ∃ i : Nat, i ≤ s.size ∧ x = .int .i64 i ∧ ∃ d, wr = w4.drewN d) (fun x _ => s.size - (intOf x).toNat)
  case atStart => exact ⟨0, Nat.zero_le _, rfl, 0, rfl⟩
  case round =>
    obtain ⟨i, hi, rfl, d, rfl⟩ := hrel
    by_cases hlt : i < s.size
    · obtain ⟨b2, o2, rfl, _, hc⟩ := S2.out.at_ hlt
      have hi' : (i : Int) < (s.size : Int) := by omega
      have hez : (s.extract i s.size).size ≤ s.size := by rw [size_ext]; omega
      have hal := alike_front (s := s) hi
      obtain ⟨v, hv⟩ : ∃ v, v = Wm.zf (byt s) s.size i := ⟨_, rfl⟩
      rw [← hv] at hc hal
      have HAL := hid hal
      clear hv hal
      go_wp2_with fail
      with_reducible refine (refAlike_any s (s.extract i s.size) _ hs hez).mono ?_
      rw [HAL.out]
      rintro e w5 ⟨rfl, d5, rfl⟩
      go_wp2
      go_roundw
      case rel => exact ⟨i + 1, by omega, by go_num, _, rfl⟩
      case measure => simp [intOf]; omega
    · have hbB := hid (bl_drewN hbA.out d)
      generalize w4.drewN d = w5 at *
      go_wp2_with fail
      with_reducible refine (long_ok p _ _ (new_cell _ _ _) hp2).mono ?_
      rintro e w6 ⟨rfl, rfl⟩
      have hbC := hid (bl_then hbB.out (bl_new w5 (.cells #[.string p] 9)))
      go_wp2
      go_ret
      exact ⟨rfl, hbC.out⟩

set_option maxHeartbeats 1000000 in
set_option maxRecDepth 100000 in
theorem seekSays_by (s p b : ByteArray) (w : World) (hs : s.size ≤ 200) (hp : p.size ≤ 200) (h0 : 0 < p.size) (hb : 200 < b.size) :
    Calls Tryd.prog 3 #[.string s, .string p, .string b] w fun e w' => e = .returned (.bool true) ∧ Below w.heap.size w w' := by
  have hl := fiL_len (s := s) h0
  obtain ⟨L, hL⟩ : ∃ L, L = fiL s p := ⟨_, rfl⟩
  rw [← hL] at hl
  have hLm : L.length ≤ maxLen := by unfold maxLen; omega
  have hpe := some_bytes h0
  have HL := hid hL
  clear hL
  go_enter Tryd.func3, Tryd.ntmps3
  go_wp2_with fail
  with_reducible refine (Find_ok s p _ hs hp h0).mono ?_
  rw [← HL.out]
  rintro e w1 ⟨A1, c1, rfl, hr1, hb1⟩
  have R1 := hid hr1
  clear hr1
  go_wp2_with fail
  with_reducible refine (Fronts_ok s _ hs).mono ?_
  rintro e w2 ⟨A2, c2, rfl, hr2, hb2⟩
  have R2 := hid hr2
  clear hr2
  go_wp2_with fail
  with_reducible refine (Put_large s p b _ hs hp h0 hb).mono ?_
  rintro e w3 ⟨rfl, hb3⟩
  have S1 := hid (((R1.out.keep hb2).keep hb3).alloc (.cells #[.string s] 9))
  have S2 := hid ((R2.out.keep hb3).alloc (.cells #[.string s] 9))
  have hbA := hid (bl_then (bl_then (bl_then hb1 hb2) hb3) (bl_new w3 (.cells #[.string s] 9)))
  clear R1 R2 hb1 hb2 hb3
  go_wp2_with fail
  with_reducible refine (long_ok s _ _ (new_cell _ _ _) hs).mono ?_
  rintro e w4 ⟨rfl, rfl⟩
  generalize w3.alloc (.cells #[.string s] 9) = w4 at *
  go_wp2
  go_loopw [82] (fun x wr => ∃ i : Nat, i ≤ s.size ∧ x = .int .i64 i ∧ ∃ d, wr = w4.drewN d) (fun x _ => s.size - (intOf x).toNat)
  case atStart => exact ⟨0, Nat.zero_le _, rfl, 0, rfl⟩
  case round =>
    obtain ⟨i, hi, rfl, d, rfl⟩ := hrel
    by_cases hlt : i < s.size
    · obtain ⟨b2, o2, rfl, _, hc⟩ := S2.out.at_ hlt
      have hi' : (i : Int) < (s.size : Int) := by omega
      have hez : (s.extract i s.size).size ≤ s.size := by rw [size_ext]; omega
      have hal := alike_front (s := s) hi
      obtain ⟨v, hv⟩ : ∃ v, v = Wm.zf (byt s) s.size i := ⟨_, rfl⟩
      rw [← hv] at hc hal
      have HAL := hid hal
      clear hv hal
      go_wp2_with fail
      with_reducible refine (refAlike_any s (s.extract i s.size) _ hs hez).mono ?_
      rw [HAL.out]
      rintro e w5 ⟨rfl, d5, rfl⟩
      go_wp2
      go_roundw
      case rel => exact ⟨i + 1, by omega, by go_num, _, rfl⟩
      case measure => simp [intOf]; omega
    · have hbB := hid (bl_drewN hbA.out d)
      have T1 := hid (S1.out.drewN d)
      generalize w4.drewN d = w5 at *
      go_wp2_with fail
      with_reducible refine (long_ok p _ _ (new_cell _ _ _) hp).mono ?_
      rintro e w6 ⟨rfl, rfl⟩
      have hbC := hid (bl_then hbB.out (bl_new w5 (.cells #[.string p] 9)))
      have T2 := hid (T1.out.alloc (.cells #[.string p] 9))
      generalize w5.alloc (.cells #[.string p] 9) = w6 at *
      clear T1 hbB S1 S2 hbA
      go_wp2_with fail
      with_reducible refine (findOf_any s p _ hs hp h0).mono ?_
      rw [← HL.out]
      rintro e w7 ⟨A7, c7, rfl, hr7, hb7⟩
      have T3 := hid (T2.out.keep hb7)
      have R7 := hid hr7
      have hA : eqB L.length L.length (fun k => L.getD k 0) (fun k => L.getD k 0) = true := eqB_true.2 ⟨rfl, fun _ _ => rfl⟩
      clear hr7 T2
      go_wp2_with fail
      with_reducible refine (alike_any T3.out R7.out hLm hLm).mono ?_
      rw [hA]
      rintro e w8 ⟨rfl, hd8⟩
      have hbD := hid (bl_then (bl_then (bl_then hbC.out hb7) (hd8.below _)) (bl_new w8 (.cells #[.string b] 9)))
      clear hd8 hA T3 R7 hb7 hbC
      go_wp2_with fail
      with_reducible refine (long_large b _ _ (new_cell _ _ _) hb).mono ?_
      rintro e w9 ⟨rfl, rfl⟩
      go_wp2
      go_ret
      exact ⟨rfl, hbD.out⟩

theorem seekSays_walk (s p b : ByteArray) (_ : s.size ≤ maxLen) (_ : p.size ≤ maxLen) (_ : b.size ≤ maxLen) (w : World) (hm : ∃ m, w.cell? ⟨0, 0, none⟩ = some (.int .i64 m)) (hw : 0 < w.heap.size) :
    Calls Tryd.prog 3 #[.string s, .string p, .string b] w fun e w' => e = .returned (.bool true) ∧ Below w.heap.size w w' := by
  obtain ⟨m, hm⟩ := hm
  by_cases hs : s.size ≤ 200
  · by_cases hp : p.size ≤ 200
    · by_cases h0 : p.size = 0
      · exact seekSays_empty s p b w hs h0
      · by_cases hb : b.size ≤ 200
        · exact seekSays_ok s p b w m hm hw hs hp (by omega) hb
        · exact seekSays_by s p b w hs hp (by omega) (by omega)
    · exact seekSays_long s p b w hs (by omega)
  · exact seekSays_large s p b w (by omega)
end Go.Proofs.YtdkdnhbdfcfkkaaDoor
