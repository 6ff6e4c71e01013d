
/-
The contract of quillkeep.phrases: the word aabab has two phrases, and ab is left.
-/
import Derived.Test.YtpifmahnlapdbaaPhPut
import Derived.Test.YtpifmahnlapdbaaPEqual
namespace Go.Proofs.Ytpifmahnlapdbaa
open Go.RowKit

def aabab : ByteArray := ⟨#[97, 97, 98, 97, 98]⟩
theorem aabab_run : (Ph.prun (lst aabab)).1 = [(0, 97), (1, 98)] := by decide
theorem aabab_rest : mkS (Ph.prest (lst aabab)) = ⟨#[97, 98]⟩ := by decide
theorem lit_row (w : World) (N : Nat) (hN : w.heap.size = N) : PRow (w.alloc (.cells #[.int .i64 0, .int .u8 97, .int .i64 1, .int .u8 98] 33)) (some ⟨N, 0, none⟩) 2 (fun k => [((0 : Int), (97 : UInt8)), (1, 98)].getD k (0, 0)) := by
  subst hN
  intro k hk
  refine ⟨w.heap.size, 0, rfl, by simp, ?_⟩
  rw [cell_of_row _ _ _ _ _ _ (heap_alloc_new w _), cell_of_row _ _ _ _ _ _ (heap_alloc_new w _)]
  match k, hk with
  | 0, _ => exact ⟨rfl, rfl⟩
  | 1, _ => exact ⟨rfl, rfl⟩
theorem phrases_ok (w : World) : Calls Try.prog 13 #[] w fun e w' => e = .returned (.bool true) ∧ Below w.heap.size w w' := by
  have hput := Put_ok aabab w (by decide)
  rw [aabab_run, aabab_rest] at hput
  unfold aabab at hput
  go_enter Try.func13, Try.ntmps13
  go_wp2_with fail
  with_reducible refine hput.mono ?_
  rintro e w1 ⟨v, rfl, hown, hb⟩
  obtain ⟨A, c, rfl, hc, hrow⟩ := hown.row
  have hrow2 : PRow (w1.alloc (.cells #[.int .i64 0, .int .u8 97, .int .i64 1, .int .u8 98] 33)) A 2 (fun k => [((0 : Int), (97 : UInt8)), (1, 98)].getD k (0, 0)) := hrow.keep (bl_new w1 (.cells #[.int .i64 0, .int .u8 97, .int .i64 1, .int .u8 98] 33))
  have hlit := lit_row w1 _ rfl
  have HB := hid hb
  have H2 := hid hrow2
  have HL := hid hlit
  clear hput hown hb hrow hrow2 hlit
  have hbb : ((⟨#[97, 98]⟩ : ByteArray).toList == (⟨#[97, 98]⟩ : ByteArray).toList) = true := beq_self_eq_true _
  go_wp2_with fail
  with_reducible refine (pequal_any H2.out HL.out (by decide) (by decide)).mono ?_
  rintro e w2 ⟨rfl, hd⟩
  have HD := hid hd
  clear hd
  have he : eqP 2 2 (fun k => [((0 : Int), (97 : UInt8)), (1, 98)].getD k (0, 0)) (fun k => [((0 : Int), (97 : UInt8)), (1, 98)].getD k (0, 0)) = true := eqP_true.2 ⟨rfl, fun _ _ => rfl⟩
  rw [he]
  clear H2 HL
  go_wp2
  go_ret
  exact ⟨rfl, bl_then HB.out (bl_then (bl_new w1 _) (HD.out.below _))⟩
end Go.Proofs.Ytpifmahnlapdbaa
