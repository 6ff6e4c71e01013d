/-
The walk of quillkeep.MirrorFew: it returns true for every string and byte.
-/
import Derived.Test.YtgeikpfbgdgciaaMirrors
import Derived.Test.YtgeikpfbgdgciaaApp
import Derived.Laws.BytesArg
import Derived.Laws.IdiomStrings
import Derived.Laws.Cover1
namespace Go.Proofs.Ytgeikpfbgdgciaa
open Go.RowKit

theorem byte_str (b : Int) : strOfNums [b] = ⟨#[b.toNat.toUInt8]⟩ := rfl
theorem new_cell (w : World) (v : Value) (t : TypeId) : (w.alloc (.cells #[v] t)).cell? ⟨w.heap.size, 0, none⟩ = some v := by simp
theorem lst_app (a b : ByteArray) : lst (a ++ b) = lst a ++ lst b := by
  unfold lst
  rw [ByteArray.data_append, Array.toList_append]
set_option maxHeartbeats 1000000 in
theorem mirrorFew_walk (s0 : ByteArray) (b : Int) (_ : s0.size ≤ maxLen) (_ : (Lit.int .u8 b).wf = true) (w : World) :
    Calls Try.prog 4 #[.string s0, .int .u8 b] w fun e w' => e = .returned (.bool true) ∧ Below w.heap.size w w' := by
  go_enter Try.func4, Try.ntmps4
  go_wp2_with fail
  with_reducible refine (mirrors_ok _).mono ?_
  rintro e w1 ⟨rfl, hb1⟩
  go_wp2_with fail
  refine (cut_any s0 199 _ (by decide)).mono ?_
  rintro e w2 ⟨rfl, rfl⟩
  have hcs := (cutS_size s0 199).1
  generalize cutS s0 199 = s at hcs
  go_wp2_with fail
  with_reducible refine (Unlike_ok s _ (by omega)).mono ?_
  rintro e w2 ⟨rfl, hb2⟩
  have hcv := run_convert_bytes_arg (P := Try.prog) (w2.alloc (.cells #[.int .u8 b] 5)) 38 5 Try.underlying38 Try.underlying5 w2.heap.size 0 1 1 [b] rfl (fun i hi => by
    obtain rfl : i = 0 := by omega
    exact new_cell _ _ _) 9 Try.underlying9
  rw [byte_str] at hcv
  generalize b.toNat.toUInt8 = ch at *
  have hone : (⟨#[ch]⟩ : ByteArray).size = 1 := rfl
  have hsz : (s ++ ⟨#[ch]⟩ : ByteArray).size ≤ 200 := by rw [size_app, hone]; omega
  have hsz2 : s.size + 1 ≤ 200 := by omega
  have hnb : ¬ 9223372036854775807 < s.size + 1 := by omega
  go_wp2_with fail
  with_reducible refine (Unlike_ok (s ++ ⟨#[ch]⟩) _ hsz).mono ?_
  rintro e w3 ⟨rfl, hb3⟩
  have HB3 := hid (bl_then (bl_then (bl_then hb1 hb2) (bl_new w2 (.cells #[.int .u8 b] 5))) hb3)
  clear hb1 hb2 hb3 hcv
  go_wp2_with fail
  with_reducible refine (good_ok _ 2 2 _ (by omega) (two_zeros _ _)).mono ?_
  rintro e w8 ⟨rfl, rfl⟩
  have e1 := Mm.pl_le (lst s)
  have e2 := Mm.pl_mono (lst s) ch
  have e3 := Mm.pl_app (lst s) ch
  have e5 : (Mm.pl (lst (s ++ ⟨#[ch]⟩))).length = (Mm.pl (lst s ++ [ch])).length := by rw [lst_app]; rfl
  rw [lst_len] at e1
  rw [e5]
  clear e5
  generalize (Mm.pl (lst s)).length = n at e1 e2 e3
  generalize (Mm.pl (lst s ++ [ch])).length = m at e2 e3
  have g1 : (n : Int) ≤ (s.size : Int) := by omega
  have g2 : (n : Int) ≤ (m : Int) := by omega
  have g3 : (m : Int) ≤ (n : Int) + 1 := by omega
  have HB := hid (bl_then HB3.out (bl_new w3 (.cells #[.int .i64 0, .int .i64 0] 23)))
  clear HB3
  go_wp2
  go_ret
  exact ⟨rfl, HB.out⟩
end Go.Proofs.Ytgeikpfbgdgciaa
