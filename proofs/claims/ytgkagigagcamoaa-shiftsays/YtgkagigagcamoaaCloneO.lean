
/-
The contract of slices.Clone at rows of ops.
-/
import Derived.Test.YtgkagigagcamoaaOpRow
import Derived.Test.YtgkagigagcamoaaConcatO
import Derived.Lib.SliceRun
import Derived.Deep.AppendLies
namespace Go.Proofs.Ytgkagigagcamoaa
open Go.RowKit

theorem clone_o_nil (n c : Nat) (w : World) :
    Calls Try.prog 26 #[.slice none n c] w fun e w' => e = .returned (.slice none 0 0) ∧ w = w' := by
  have hq := fun W : World => Lib.run_eql_slice_nil (P := Try.prog) W 33 23 none n c 0 0 Try.underlying33
  go_enter Try.func26, Try.ntmps26
  go_wp2
  go_ret
  exact ⟨rfl, rfl⟩
theorem OpRow.news {w : World} {b o n : Nat} {h : Nat → Sh.Op} (hr : OpRow w (some ⟨b, o, none⟩) n h) : ∀ j u, ((ol h n).flatMap opC)[j]? = some u → w.cell? (Addr.add ⟨b, o, none⟩ j) = some u := by
  intro j u hj
  obtain ⟨hjm, _⟩ := List.getElem?_eq_some_iff.1 hj
  rw [op_len, ol_len] at hjm
  rw [Addr.add_lit]
  obtain ⟨k, r, hr3, rfl⟩ : ∃ k r, r < 3 ∧ j = k * 3 + r := ⟨j / 3, j % 3, Nat.mod_lt _ (by decide), by omega⟩
  have hk : k < n := by omega
  have hf := op_flat (ol h n) k (by rw [ol_len]; exact hk)
  have e : (ol h n)[k]'(by rw [ol_len]; exact hk) = h k := by simp [ol]
  rw [e] at hf
  obtain ⟨b', o', e', _, q1, q2, q3⟩ := hr k hk
  injection e' with e'
  injection e' with e1 e2
  subst e1; subst e2
  match r, hr3 with
  | 0, _ =>
    rw [Nat.add_zero, hf.1] at hj
    rw [← hj]; exact q1
  | 1, _ =>
    rw [hf.2.1] at hj
    rw [← hj, show o + (k * 3 + 1) = o + k * 3 + 1 by omega]; exact q2
  | 2, _ =>
    rw [hf.2.2] at hj
    rw [← hj, show o + (k * 3 + 2) = o + k * 3 + 2 by omega]; exact q3
theorem op_one (L : List Sh.Op) : ∀ u ∈ L.flatMap opC, u.oneCell' = true := by
  intro u hu
  obtain ⟨x, _, hx⟩ := List.mem_flatMap.1 hu
  simp [opC] at hx
  rcases hx with rfl | rfl | rfl <;> rfl
theorem clone_o_some (b o n c : Nat) (h : Nat → Sh.Op) (w : World) (hr : OpRow w (some ⟨b, o, none⟩) n h) (hl : n ≤ 100000) (h0 : 0 < n) :
    Calls Try.prog 26 #[.slice (some ⟨b, o, none⟩) n c] w fun e w' => ∃ v, e = .returned v ∧ OwnO w' w.heap.size v (ol h n) ∧ Below w.heap.size w w' := by
  have hq := fun W : World => Lib.run_eql_slice_nil (P := Try.prog) W 33 23 (some ⟨b, o, none⟩) n c 0 0 Try.underlying33
  have HR := hid hr
  clear hr
  go_enter Try.func26, Try.ntmps26
  obtain ⟨i0, hi, hz0, hz1, hz2⟩ := info_parts Try.infoOp
  have H1 := hid hi
  have H2 := hid hz0
  have H3 := hid hz1
  have H4 := hid hz2
  have H5 := hid (OpRow.news (HR.out.keep (bl_new w (.cells #[] 23))))
  have H6 := hid (op_one (ol h n))
  have H7 : Hid ((w.alloc (.cells #[] 23)).ownsRow w.heap.size 23 3 (.slice (some ⟨w.heap.size, 0, none⟩) 0 0) 0 []) := World.ownsRow_made w #[] 0 (Nat.le_refl _) (by decide) rfl
  have H8 : Hid (((ol h n).flatMap opC).length = n * 3) := by show _ = _; rw [op_len, ol_len]
  have H9 : Hid (w.heap.size ≤ (w.alloc (.cells #[] 23)).heap.size) := by show _ ≤ _; simp
  clear hi hz0 hz1 hz2
  go_wp2_with (at_builtin; with_reducible refine wpList_append_lies _ rfl _ _ 33 rfl w.heap.size 23 i0 (.agg #[.int .i64 0, .int .i64 0, .int .u8 0]) 3 24 Try.underlying33 H1.out H2.out H3.out H4.out rfl (by decide) (.slice (some ⟨w.heap.size, 0, none⟩) 0 0) 0 [] (by simp [Act.eval]) H7.out ⟨b, o, none⟩ n c ((ol h n).flatMap opC) (by simp [Act.eval]) H8.out H5.out H6.out h0 (by unfold maxLen; omega) (by omega) H9.out _ rfl ?_; intro g cap w1 hown hgrow hat hlt; have G1 := hid hown; have G2 := hid hgrow; have G3 := hid hat; clear hown hgrow hat)
  go_ret
  refine ⟨_, rfl, ?_, ?_⟩
  · have := G1.out
    rw [Nat.zero_add, List.nil_append] at this
    unfold OwnO
    rw [ol_len]
    exact this
  · refine (bl_new w (.cells #[] 23)).grown G2.out H9.out ?_
    intro k hk
    simp [Value.ownBlock] at hk
    omega
/-- Of a slice that is not nil and has nothing in it. -/
theorem clone_o_zero (a : Addr) (c : Nat) (w : World) :
    Calls Try.prog 26 #[.slice (some a) 0 c] w fun e w' => ∃ v, e = .returned v ∧ OwnO w' w.heap.size v [] ∧ Below w.heap.size w w' := by
  have hq := fun W : World => Lib.run_eql_slice_nil (P := Try.prog) W 33 23 (some a) 0 c 0 0 Try.underlying33
  obtain ⟨i0, hi, hz0, hz1, hz2⟩ := info_parts Try.infoOp
  have H7 : Hid ((w.alloc (.cells #[] 23)).ownsRow w.heap.size 23 3 (.slice (some ⟨w.heap.size, 0, none⟩) 0 0) 0 []) := World.ownsRow_made w #[] 0 (Nat.le_refl _) (by decide) rfl
  have HA := hid (run_appendO_nothing (P := Try.prog) (w.alloc (.cells #[] 23)) 33 33 23 i0 Try.underlying33 hi (some ⟨w.heap.size, 0, none⟩) 0 0 (Nat.le_refl _) (some a) c)
  clear hi hz0 hz1 hz2
  go_enter Try.func26, Try.ntmps26
  go_wp2_with (at_builtin; with_reducible refine Lib.wpList_append_run _ rfl _ _ 33 33 rfl _ _ rfl rfl _ _ HA.out ?_)
  go_ret
  exact ⟨_, rfl, H7.out, bl_new w _⟩
theorem clone_o (A : Option Addr) (n c : Nat) (h : Nat → Sh.Op) (w : World) (hr : OpRow w A n h) (hl : n ≤ 100000) (hA : A = none → n = 0) :
    Calls Try.prog 26 #[.slice A n c] w fun e w' => ∃ v, e = .returned v ∧ OwnO w' w.heap.size v (ol h n) ∧ Below w.heap.size w w' := by
  cases A with
  | none =>
    obtain rfl := hA rfl
    refine (clone_o_nil 0 c w).mono ?_
    rintro e w' ⟨rfl, rfl⟩
    exact ⟨_, rfl, OwnO.zero _ _, Below.refl _ _⟩
  | some a =>
    by_cases h0 : n = 0
    · subst h0
      exact clone_o_zero a c w
    · obtain ⟨b, o, e, _⟩ := hr 0 (by omega)
      cases e
      exact clone_o_some b o n c h w hr hl (by omega)
end Go.Proofs.Ytgkagigagcamoaa
