/-
The walk of quillkeep.SuffixUnlike: it returns true for every string and byte.
-/
import Derived.Test.YtcnfdmpggnhlgaaUnlike
import Derived.Test.YtcnfdmpggnhlgaaUnMath
import Derived.Test.YtcnfdmpggnhlgaaKeep
import Derived.Test.YtcnfdmpggnhlgaaBack
import Derived.Test.YtcnfdmpggnhlgaaApp
import Derived.Test.YtcnfdmpggnhlgaaShelfU
import Derived.Laws.BytesArg
import Derived.Laws.IdiomStrings
import Derived.Laws.Cover1
namespace Go.Proofs.Ytcnfdmpggnhlgaa
open Go.RowKit

theorem byte_str (b : Int) : strOfNums [b] = ⟨#[b.toNat.toUInt8]⟩ := rfl
theorem new_cell (w : World) (v : Value) (t : TypeId) : (w.alloc (.cells #[v] t)).cell? ⟨w.heap.size, 0, none⟩ = some v := by simp
theorem lst_app (a b : ByteArray) : lst (a ++ b) = lst a ++ lst b := by
  unfold lst
  rw [ByteArray.data_append, Array.toList_append]
theorem lst_back (s : ByteArray) : lst (backS s) = (lst s).reverse := by
  have hz : (lst (backS s)).length = (lst s).reverse.length := by rw [lst_len, List.length_reverse, lst_len, backS_size]
  refine List.ext_getElem hz fun i h1 h2 => ?_
  have hi : i < s.size := by rw [lst_len, backS_size] at h1; exact h1
  have e1 : (lst (backS s))[i] = byt (backS s) i := by
    rw [← lst_get, List.getD_eq_getElem?_getD, List.getElem?_eq_getElem h1]; rfl
  have h3 : s.size - 1 - i < (lst s).length := by rw [lst_len]; omega
  have e2 : (lst s)[s.size - 1 - i] = byt s (s.size - 1 - i) := by
    rw [← lst_get, List.getD_eq_getElem?_getD, List.getElem?_eq_getElem h3]; rfl
  rw [e1, backS_byt hi, List.getElem_reverse, ← e2]
  congr 1
def aS : ByteArray := ⟨#[97]⟩
def aabS : ByteArray := ⟨#[97, 97, 98]⟩
def runS (n : Nat) : ByteArray := ⟨(Lib.repeatL aS.data.toList n).toArray⟩
theorem lst_run (n : Nat) : lst (runS n) = List.replicate n 97 := by
  show (Lib.repeatL [97] n).toArray.toList = _
  induction n with
  | zero => rfl
  | succ n ih =>
    rw [List.replicate_succ, ← ih]
    rfl
theorem four_zeros (w : World) (t : TypeId) : ∀ k, k < 4 → (w.alloc (.cells #[.int .i64 0, .int .i64 0, .int .i64 0, .int .i64 0] t)).cell? ⟨w.heap.size, k, none⟩ = some (.int .i64 0) := by
  intro k hk
  match k, hk with
  | 0, _ => simp
  | 1, _ => simp
  | 2, _ => simp
  | 3, _ => simp
theorem ten (s : List UInt8) (h : s.length ≤ 101) : (Sm.dl s).length ≤ 100000 := by
  have key : ∀ i, (Sm.PF s i).length ≤ i * 101 := by
    intro i
    induction i with
    | zero => simp [Sm.PF]
    | succ i ih => rw [Sm.PF_len]; omega
  have := key s.length
  unfold Sm.dl
  have := Nat.mul_le_mul_right 101 h
  omega
set_option maxHeartbeats 1000000 in
theorem suffixUnlike_walk (s0 : ByteArray) (b : Int) (_ : s0.size ≤ maxLen) (_ : (Lit.int .u8 b).wf = true) (w : World) :
    Calls Try.prog 5 #[.string s0, .int .u8 b] w fun e w' => e = .returned (.bool true) ∧ Below w.heap.size w w' := by
  go_enter Try.func5, Try.ntmps5
  go_wp2_with fail
  refine (Unlike_ok aabS _ (by decide)).mono ?_
  rw [show (Sm.dl (lst aabS)).length = 5 from Sm.dl_aab]
  rintro e w1 ⟨rfl, hb1⟩
  go_wp2_with fail
  refine (cut_any s0 100 _ (by decide)).mono ?_
  rintro e w2 ⟨rfl, rfl⟩
  have hcs := (cutS_size s0 100).1
  generalize cutS s0 100 = s at hcs
  go_wp2_with fail
  with_reducible refine (Unlike_ok s _ (by omega)).mono ?_
  rintro e w2 ⟨rfl, hb2⟩
  have hcv := run_convert_bytes_arg (P := Try.prog) (w2.alloc (.cells #[.int .u8 b] 5)) 41 5 Try.underlying41 Try.underlying5 w2.heap.size 0 1 1 [b] rfl (fun i hi => by
    obtain rfl : i = 0 := by omega
    exact new_cell _ _ _) 9 Try.underlying9
  rw [byte_str] at hcv
  generalize b.toNat.toUInt8 = ch at *
  have hone : (⟨#[ch]⟩ : ByteArray).size = 1 := rfl
  have hsz : (s ++ ⟨#[ch]⟩ : ByteArray).size ≤ 200 := by rw [size_app, hone]; omega
  have hsz2 : s.size + 1 ≤ 200 := by omega
  have hnb : ¬ 9223372036854775807 < s.size + 1 := by omega
  have hbk : (backS s).size ≤ 200 := by rw [backS_size]; omega
  have hm1 : s.size ≤ maxLen := by unfold maxLen; omega
  go_wp2_with fail
  with_reducible refine (Unlike_ok (s ++ ⟨#[ch]⟩) _ hsz).mono ?_
  rintro e w3 ⟨rfl, hb3⟩
  have HB3 := hid (bl_then (bl_then (bl_then hb1 hb2) (bl_new w2 (.cells #[.int .u8 b] 5))) hb3)
  clear hb1 hb2 hb3 hcv
  go_wp2_with fail
  with_reducible refine (back_any s _ hm1).mono ?_
  rintro e w4 ⟨rfl, hb4⟩
  go_wp2_with fail
  with_reducible refine (Unlike_ok (backS s) _ hbk).mono ?_
  rintro e w5 ⟨rfl, hb5⟩
  have hR := fun W => Try.strings_Repeat aS s.size W (by omega) (by show 1 * s.size ≤ _; omega)
  have hrz : (runS s.size).size ≤ 200 := by rw [← lst_len, lst_run, List.length_replicate]; omega
  go_wp2_with fail
  refine (hR _).mono ?_
  rw [show (⟨(Lib.repeatL aS.data.toList s.size).toArray⟩ : ByteArray) = runS s.size from rfl]
  rintro e w6 ⟨rfl, hb6⟩
  go_wp2_with fail
  with_reducible refine (Unlike_ok (runS s.size) _ hrz).mono ?_
  rintro e w7 ⟨rfl, hb7⟩
  have HB7 := hid (bl_then (bl_then (bl_then (bl_then HB3.out hb4) hb5) hb6) hb7)
  clear hb4 hb5 hb6 hb7 HB3 hR
  go_wp2_with fail
  with_reducible refine (good_ok _ 4 4 _ (by omega) (four_zeros _ _)).mono ?_
  rintro e w8 ⟨rfl, rfl⟩
  have e1 := Sm.dl_ge (lst s)
  have e2 := Sm.dl_mono (lst s) ch
  have e3 := Sm.dl_app (lst s) ch
  have e4 := ten (lst s) (by rw [lst_len]; omega)
  have e5 : (Sm.dl (lst (s ++ ⟨#[ch]⟩))).length = (Sm.dl (lst s ++ [ch])).length := by rw [lst_app]; rfl
  have e6 : (Sm.dl (lst (backS s))).length = (Sm.dl (lst s)).length := by rw [lst_back, Sm.dl_rev]
  have e7 : (Sm.dl (lst (runS s.size))).length = s.size := by rw [lst_run, Sm.dl_run]
  rw [lst_len] at e1 e3
  rw [e5, e6, e7]
  clear e5 e6 e7
  generalize (Sm.dl (lst s)).length = n at e1 e2 e3 e4
  generalize (Sm.dl (lst s ++ [ch])).length = m at e2 e3
  have g1 : (s.size : Int) ≤ (n : Int) := by omega
  have g2 : (n : Int) < (m : Int) + 1 := by omega
  have g3 : (m : Int) ≤ (n : Int) + (s.size : Int) + 1 := by omega
  have HB := hid (bl_then HB7.out (bl_new w7 (.cells #[.int .i64 0, .int .i64 0, .int .i64 0, .int .i64 0] 23)))
  clear HB7
  go_wp2
  go_ret
  exact ⟨rfl, HB.out⟩
end Go.Proofs.Ytcnfdmpggnhlgaa
