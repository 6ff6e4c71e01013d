
/-
quilltop.works and quilltop.good: the examples of the whole; no error at all.
-/
import Derived.Test.YtejcijlmpiiffaaEdAp
import Derived.Test.YtejcijlmpiiffaaTurns
namespace Go.Proofs.Ytejcijlmpiiffaa
open Go.RowKit

def jelloL : List Es.Ev := [⟨0, 1, ⟨#[74]⟩⟩]
theorem jello_err : Es.eErr (((⟨#[104, 101, 108, 108, 111]⟩ : ByteArray).size : Nat) : Int) jelloL = 0 := by decide +kernel
theorem jello_done : mkS (Es.doneL (lst ⟨#[104, 101, 108, 108, 111]⟩) jelloL) = ⟨#[74, 101, 108, 108, 111]⟩ := by decide +kernel
theorem works_ok (w : World) : Calls Try.prog 22 #[] w fun e w' => e = .returned (.bool true) ∧ Below w.heap.size w w' := by
  have HW : Hid (∀ k, k < 1 → EvWf ((fun _ => (⟨0, 1, ⟨#[74]⟩⟩ : Es.Ev)) k)) := fun k _ => wf_lit ⟨0, 1, ⟨#[74]⟩⟩ (by decide +kernel)
  go_enter Try.func22, Try.ntmps22
  go_wp2_with fail
  with_reducible refine (Put_ban _).mono ?_
  rintro e w1 ⟨rfl, hb1⟩
  have HR : Hid (EvRow (w1.alloc (.cells #[.int .i64 0, .int .i64 1, .string ⟨#[74]⟩] 33)) (some ⟨w1.heap.size, 0, none⟩) 1 (fun _ => ⟨0, 1, ⟨#[74]⟩⟩)) := EvRow.one w1 ⟨0, 1, ⟨#[74]⟩⟩ 33 _ rfl
  have HB := hid (bl_then hb1 (bl_new w1 (.cells #[.int .i64 0, .int .i64 1, .string ⟨#[74]⟩] 33)))
  clear hb1
  go_wp2_with fail
  with_reducible refine (Apply_any (n := 1) ⟨#[104, 101, 108, 108, 111]⟩ _ HR.out HW.out (by decide) (by decide)).mono ?_
  rintro e w2 ⟨t, x, rfl, ha, hb2⟩
  have hel : el (fun _ => (⟨0, 1, ⟨#[74]⟩⟩ : Es.Ev)) 1 = jelloL := rfl
  rw [hel] at ha
  obtain ⟨rfl, rfl⟩ := ha.lit jello_err
  rw [jello_done]
  have HB := hid (bl_then HB.out hb2)
  clear hb2 ha HR HW hel
  go_wp2
  go_ret
  exact ⟨rfl, HB.out⟩
theorem topGood1 (n : Int) (w : World) (hn : (n != 0) = false) : Calls Try.prog 41 #[.int .i64 n] w fun e w' => e = .returned (.bool false) ∧ w = w' := by
  go_enter Try.func41, Try.ntmps41
  go_wp2
  go_ret
  exact ⟨rfl, rfl⟩
theorem topGoodIndex (b n c : Nat) (w : World) (hn : n ≤ 100) (hc : ∀ k, k < n → w.cell? ⟨b, k, none⟩ = some (.int .i64 0)) :
    Calls Try.prog 46 #[.slice (some ⟨b, 0, none⟩) n c, .func (Fn.func 41) #[] #[]] w fun e w' => e = .returned (.int .i64 (-1)) ∧ w = w' := by
  have HC := hid hc
  clear hc
  go_enter Try.func46, Try.ntmps46
  go_wp2
  go_loop [8] (fun i => ∃ k : Nat, k ≤ n ∧ i = .int .i64 k) (fun i => n - (intOf i).toNat)
  case atStart => exact ⟨0, Nat.zero_le _, rfl⟩
  case round =>
    obtain ⟨k, hk, rfl⟩ := hrel
    by_cases hlt : k < n
    · have hc := HC.out k hlt
      go_wp2_with fail
      with_reducible refine (topGood1 0 _ (by decide)).mono ?_
      rintro e w1 ⟨rfl, rfl⟩
      go_wp2
      go_round
      case rel => exact ⟨k + 1, by omega, by go_num⟩
      case measure => simp [intOf]; omega
    · go_wp2
      go_ret
      exact ⟨rfl, rfl⟩
theorem topGoodHas (b n c : Nat) (w : World) (hn : n ≤ 100) (hc : ∀ k, k < n → w.cell? ⟨b, k, none⟩ = some (.int .i64 0)) :
    Calls Try.prog 32 #[.slice (some ⟨b, 0, none⟩) n c, .func (Fn.func 41) #[] #[]] w fun e w' => e = .returned (.bool false) ∧ w = w' := by
  have HC := hid hc
  clear hc
  go_enter Try.func32, Try.ntmps32
  go_wp2_with fail
  with_reducible refine (topGoodIndex b n c _ hn HC.out).mono ?_
  rintro e w1 ⟨rfl, rfl⟩
  go_wp2
  go_ret
  exact ⟨rfl, rfl⟩
theorem topGood_ok (b n c : Nat) (w : World) (hn : n ≤ 100) (hc : ∀ k, k < n → w.cell? ⟨b, k, none⟩ = some (.int .i64 0)) :
    Calls Try.prog 23 #[.slice (some ⟨b, 0, none⟩) n c] w fun e w' => e = .returned (.bool true) ∧ w = w' := by
  have HC := hid hc
  clear hc
  go_enter Try.func23, Try.ntmps23
  go_wp2_with fail
  with_reducible refine (topGoodHas b n c _ hn HC.out).mono ?_
  rintro e w1 ⟨rfl, rfl⟩
  go_wp2
  go_ret
  exact ⟨rfl, rfl⟩
/-- So many zeros in a new block. -/
theorem zeros_new (w : World) (t : TypeId) (n : Nat) : ∀ k, k < n → (w.alloc (.cells (List.replicate n (Value.int .i64 0)).toArray t)).cell? ⟨w.heap.size, k, none⟩ = some (.int .i64 0) := by
  intro k hk
  rw [cell_of_row _ _ _ _ _ _ (heap_alloc_new w _)]
  simp [hk]
end Go.Proofs.Ytejcijlmpiiffaa
