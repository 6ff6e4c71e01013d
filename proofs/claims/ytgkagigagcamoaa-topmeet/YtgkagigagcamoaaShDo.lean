
/-
The contract of shift.Do.
-/
import Derived.Test.YtgkagigagcamoaaShCk
import Derived.Test.YtgkagigagcamoaaOpWr
import Derived.Test.YtgkagigagcamoaaApp
import Derived.Laws.BytesArg
import Derived.RegionTactic
import Derived.BigRegion
namespace Go.Proofs.Ytgkagigagcamoaa
open Go.RowKit

/-- 'string([]byte{c})'. -/
theorem conv_1 {W : World} {N : Nat} (c : UInt8) (h : W.cell? ⟨N, 0, none⟩ = some (.int .u8 (c.toNat : Int))) : (convert 30 9 (.slice (some ⟨N, 0, none⟩) 1 1)).run Try.prog W = .ok (.string (mkS [c])) W := by
  have hcv := run_convert_bytes_arg (P := Try.prog) W 30 5 Try.underlying30 Try.underlying5 N 0 1 1 [(c.toNat : Int)] rfl (fun i hi => by
    obtain rfl : i = 0 := by omega
    exact h) 9 Try.underlying9
  rw [show [(c.toNat : Int)] = [c].map fun c : UInt8 => (c.toNat : Int) from rfl, nums_mk] at hcv
  exact hcv
theorem ext_take (s : ByteArray) (a : Nat) : s.extract 0 a = mkS ((lst s).take a) := lst_inj_ (by rw [lst_mk, lst_mid, Nat.sub_zero, List.drop_zero])
theorem ext_drop (s : ByteArray) (a : Nat) : s.extract a s.size = mkS ((lst s).drop a) := lst_inj_ (by rw [lst_mk, lst_drop])
theorem do_put (s : ByteArray) (a : Nat) (b : UInt8) : s.extract 0 a ++ mkS [b] ++ s.extract a s.size = mkS (Sh.put (lst s) a b) := by
  unfold Sh.put
  rw [ext_take, ext_drop, ← mk_cat, ← mk_cat, List.append_assoc]
  rfl
theorem do_tak (s : ByteArray) (a : Nat) : s.extract 0 a ++ s.extract (a + 1) s.size = mkS (Sh.tak (lst s) a) := by
  unfold Sh.tak
  rw [ext_take, ext_drop, ← mk_cat]
set_option maxRecDepth 100000 in
set_option maxHeartbeats 4000000 in
theorem Do_any (s : ByteArray) (x : Sh.Op) (w : World) (hs : s.size ≤ maxLen) (hx : OpWf x) :
    Calls Try.prog 11 #[.string s, .agg #[.int .i64 x.k, .int .i64 x.a, .int .u8 (x.b.toNat : Int)]] w fun e w' => ∃ (t : ByteArray) (z : Int), e = .returned (.tuple #[.string t, .int .i64 z]) ∧ DoIs s x t z ∧ Below w.heap.size w w' := by
  have HX := hid hx
  obtain ⟨W, hW⟩ : ∃ W, W = w.alloc (.cells #[.int .i64 x.k, .int .i64 x.a, .int .u8 (x.b.toNat : Int)] 23) := ⟨_, rfl⟩
  have HX3 : Hid (Op3 W w.heap.size 0 x) := by
    rw [hW]
    exact Op3.new w x 23 _ rfl
  have HBW : Hid (Below w.heap.size w W) := by
    rw [hW]; exact bl_new w _
  have HSZ : Hid (w.heap.size < W.heap.size) := by
    rw [hW]; show _ < _; simp
  obtain ⟨b0, b1, b2, -⟩ := HX3.out
  rw [hW] at b0 b1 b2
  have hsz := hs
  clear hx
  go_enter Try.func11, Try.ntmps11
  go_wp2_with fail
  rw [← hW]
  clear b0 b1 b2
  with_reducible refine (SCheck_any (s.size : Int) x W (by unfold N64; unfold maxLen at hs; omega) HX.out).mono ?_
  rintro e w1 ⟨rfl, hb1⟩
  have HX4 := hid (HX3.out.block (hb1.block _ HSZ.out))
  have HB4 := hid (bl_then HBW.out hb1)
  clear hb1 HX3 HBW hW
  by_cases h1 : Sh.opErr (s.size : Int) x = 0
  · have HE := hid h1
    rw [h1]
    obtain ⟨b0, b1, b2, -⟩ := HX4.out
    obtain ⟨⟨_, hok⟩, h200, _⟩ := Sh.err_zero.1 h1
    clear h1
    obtain ⟨k, a, b⟩ := x
    simp only at b0 b1 b2 hok
    obtain ⟨a, rfl⟩ : ∃ n : Nat, a = (n : Int) := ⟨a.toNat, by omega⟩
    by_cases k1 : k = 1
    · subst k1
      have hle : a ≤ s.size := by omega
      have hleI : (a : Int) ≤ (s.size : Int) := by omega
      have ha0 : (0 : Int) ≤ (a : Int) := by omega
      have hs200 : s.size ≤ 200 := by omega
      obtain ⟨one, hone⟩ : ∃ one, one = mkS [b] := ⟨_, rfl⟩
      have HONE := hid hone
      have hcv : (convert 30 9 (.slice (some ⟨w1.heap.size, 0, none⟩) 1 1)).run Try.prog (w1.alloc (.cells #[.int .u8 (b.toNat : Int)] 5)).drew = .ok (.string one) (w1.alloc (.cells #[.int .u8 (b.toNat : Int)] 5)).drew := by
        rw [hone]
        exact conv_1 b ((cell_of_row _ _ _ _ _ _ (heap_alloc_new w1 _)).trans rfl)
      have hlt1 : w.heap.size < w1.heap.size := World.block_lt_of_cell? w1 _ b0
      have e1 : (w1.alloc (.cells #[.int .u8 (b.toNat : Int)] 5)).cell? ⟨w.heap.size, 1, none⟩ = some (.int .i64 (a : Int)) := ((bl_new w1 _).cell (p := ⟨w.heap.size, 1, none⟩) hlt1).trans b1
      have e2 : (w1.alloc (.cells #[.int .u8 (b.toNat : Int)] 5)).cell? ⟨w.heap.size, 2, none⟩ = some (.int .u8 (b.toNat : Int)) := ((bl_new w1 _).cell (p := ⟨w.heap.size, 2, none⟩) hlt1).trans b2
      have hz1 : one.size = 1 := by rw [hone, mk_size]; rfl
      have hz2 : (s.extract 0 a).size = a := by simp; omega
      have hz3 : (s.extract a s.size).size = s.size - a := by simp
      have hz4 : (s.extract 0 a ++ one).size = a + 1 := by rw [size_app, hz1, hz2]
      have hb1 : ¬ 9223372036854775807 < a + 1 := by omega
      have hb2 : ¬ 9223372036854775807 < a + 1 + (s.size - a) := by omega
      clear hok h200 hs hsz hone
      go_wp2
      go_region
      go_wp2
      go_ret2
      refine ⟨_, 0, rfl, ⟨HE.out.symm, ?_⟩, ((bl_then HB4.out (bl_new w1 _)).drew)⟩
      rw [if_pos rfl, HONE.out, do_put]
      rfl
    · by_cases k2 : k = 2
      · subst k2
        have hle : a ≤ s.size := by omega
        have hleI : (a : Int) ≤ (s.size : Int) := by omega
        have hle1 : a + 1 ≤ s.size := by omega
        have hleI1 : (a : Int) + 1 ≤ (s.size : Int) := by omega
        have ha0 : (0 : Int) ≤ (a : Int) := by omega
        have ha1 : (0 : Int) ≤ (a : Int) + 1 := by omega
        have hw : IntKind.i64.wrap ((a : Int) + 1) = (a : Int) + 1 := IntWalk.i64_in _ (by omega)
        obtain ⟨d, hd⟩ : ∃ d : Nat, d = a + 1 := ⟨_, rfl⟩
        have HD := hid hd
        have hdI : (a : Int) + 1 = (d : Int) := by omega
        rw [hdI] at hw hleI1 ha1
        rw [← hd] at hle1
        have hz2 : (s.extract 0 a).size = a := by simp; omega
        have hz3 : (s.extract d s.size).size = s.size - d := by simp
        have hb2 : ¬ 9223372036854775807 < a + (s.size - d) := by omega
        clear hok h200 hs hsz k1 hd
        go_wp2
        go_region
        go_wp2
        go_ret2
        refine ⟨_, 0, rfl, ⟨HE.out.symm, ?_⟩, HB4.out.drew⟩
        rw [if_pos rfl, HD.out, do_tak]
        rfl
      · have k1' := beq_eq_false_iff_ne.2 k1
        have k2' := beq_eq_false_iff_ne.2 k2
        have HV : Hid (Sh.doL (lst s) ⟨k, (a : Int), b⟩ = lst s) := by
          show _ = _
          unfold Sh.doL
          rw [if_neg k1, if_neg k2]
        clear hok h200 hs hsz k1 k2
        go_wp2
        go_ret2
        exact ⟨s, 0, rfl, ⟨HE.out.symm, by rw [if_pos rfl, HV.out, mk_lst]⟩, HB4.out⟩
  · have HE := hid h1
    have h1' : (Sh.opErr (s.size : Int) x != 0) = true := bne_iff_ne.2 h1
    have h1'' : (Sh.opErr (s.size : Int) x == 0) = false := beq_eq_false_iff_ne.2 h1
    clear h1
    go_wp2
    go_ret2
    exact ⟨ByteArray.empty, _, rfl, ⟨rfl, (if_neg HE.out).symm⟩, HB4.out⟩
end Go.Proofs.Ytgkagigagcamoaa
