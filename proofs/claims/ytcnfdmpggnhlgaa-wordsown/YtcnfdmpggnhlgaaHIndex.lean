/-
The contracts of slices.Index and slices.Contains at rows of hits, for a hit that is there.
-/
import Derived.Test.YtcnfdmpggnhlgaaHEqual
namespace Go.Proofs.Ytcnfdmpggnhlgaa
open Go.RowKit

theorem hit_eql (a b c d : Int) (w : World) : (binOp .eql 55 (.agg #[.int .i64 a, .int .i64 b]) (.agg #[.int .i64 c, .int .i64 d])).run Try.prog w = .ok (.bool (a == c && b == d)) w := by
  rw [run_eql_struct, run_equalIn_agg w 9999 55 _ _ (by kernel_rfl) (by kernel_rfl)]
  have hf : (Try.prog.fieldsOf 55).toList = [{ name := "At", type := 3, offset := 0, embedded := false, tag := "", pkgPath := "", byteOffset := 0 }, { name := "Which", type := 3, offset := 1, embedded := false, tag := "", pkgPath := "", byteOffset := 8 }] := by kernel_rfl
  rw [hf]
  have hz : ∀ w, (isAgg 3).run Try.prog w = .ok false w := Try.isAgg3
  have hs : ∀ w, (Go.sizeOf 3).run Try.prog w = .ok 1 w := Try.sizeOf3
  have he : ∀ (x y : Int) (w : World), (Op.equalIn 9999 3 (.int .i64 x) (.int .i64 y)).run Try.prog w = .ok (x == y) w := fun x y w => run_equalIn_int w 9998 3 .i64 .i64 x y Try.underlying3
  simp [Op.eqFields, part, hz, hs, he]
  by_cases h1 : a = c <;> by_cases h2 : b = d <;> simp [h1, h2]

theorem hindex_yes {A : Option Addr} {n c : Nat} {h : Nat → Nat × Nat} {w : World} {x : Nat × Nat} {j : Nat} (hr : HRow w A n h) (hn : n ≤ 1000000) (hj : j < n) (hv : h j = x) (hf : ∀ k, k < j → h k ≠ x) :
    Calls Try.prog 71 #[.slice A n c, .agg #[.int .i64 (x.1 : Int), .int .i64 (x.2 : Int)]] w fun e w' => e = .returned (.int .i64 (j : Int)) ∧ Below w.heap.size w w' := by
  have hq := hit_eql
  have hgd := hit_guard
  have HF := hid hf
  have HV := hid hv
  have HR := hid (hr.keep (bl_new w (.cells #[.int .i64 (x.1 : Int), .int .i64 (x.2 : Int)] 55)))
  have HX1 : Hid ((w.alloc (.cells #[.int .i64 (x.1 : Int), .int .i64 (x.2 : Int)] 55)).cell? ⟨w.heap.size, 0, none⟩ = some (.int .i64 (x.1 : Int))) := by show _ = _; simp
  have HX2 : Hid ((w.alloc (.cells #[.int .i64 (x.1 : Int), .int .i64 (x.2 : Int)] 55)).cell? ⟨w.heap.size, 1, none⟩ = some (.int .i64 (x.2 : Int))) := by show _ = _; simp
  have HB := hid (bl_new w (.cells #[.int .i64 (x.1 : Int), .int .i64 (x.2 : Int)] 55))
  clear hr hf hv
  go_enter Try.func71, Try.ntmps71
  go_wp2
  generalize w.alloc (.cells #[.int .i64 (x.1 : Int), .int .i64 (x.2 : Int)] 55) = w0 at *
  have hx1 := HX1.out
  have hx2 := HX2.out
  go_loopw [8] (fun i wr => ∃ k : Nat, k ≤ j ∧ i = .int .i64 k ∧ ∃ d, wr = w0.drewN d) (fun i _ => n - (intOf i).toNat)
  case atStart => exact ⟨0, by omega, rfl, 0, rfl⟩
  case round =>
    obtain ⟨k, hk, rfl, d, rfl⟩ := hrel
    have hkn : k < n := by omega
    obtain ⟨b, o, rfl, _, h1, h2⟩ := HR.out k hkn
    by_cases hkj : k < j
    · have hne : (((x.1 : Int) == ((h k).1 : Int)) && ((x.2 : Int) == ((h k).2 : Int))) = false := by
        rw [Bool.eq_false_iff]
        intro hq
        rw [Bool.and_eq_true, beq_iff_eq, beq_iff_eq] at hq
        exact HF.out k hkj (Prod.ext (by omega) (by omega))
      generalize h k = y at *
      go_wp2
      go_quiet (fail)
      go_wp2
      go_roundw
      case measure => simp [intOf]; omega
      case rel => exact ⟨k + 1, by omega, by go_num, _, rfl⟩
    · obtain rfl : k = j := by omega
      rw [HV.out] at h1 h2
      have hb1 : ((x.1 : Int) == (x.1 : Int)) = true := by simp
      have hb2 : ((x.2 : Int) == (x.2 : Int)) = true := by simp
      go_wp2
      go_quiet (fail)
      go_wp2
      go_ret
      exact ⟨rfl, bl_drewN (bl_drewN HB.out _) _⟩
theorem hfirst {n : Nat} {h : Nat → Nat × Nat} {v : Nat × Nat} : ∀ k, k < n → h k = v → ∃ j, j < n ∧ h j = v ∧ ∀ k, k < j → h k ≠ v := by
  intro k
  induction k using Nat.strongRecOn with
  | _ k ih =>
    intro hk e
    by_cases hx : ∃ j, j < k ∧ h j = v
    · obtain ⟨j, hj, e'⟩ := hx
      exact ih j hj (by omega) e'
    · exact ⟨k, hk, e, fun j hj e' => hx ⟨j, hj, e'⟩⟩
theorem hcontains_yes {A : Option Addr} {n c : Nat} {h : Nat → Nat × Nat} {w : World} {x : Nat × Nat} (hr : HRow w A n h) (hn : n ≤ 1000000) (hv : ∃ k, k < n ∧ h k = x) :
    Calls Try.prog 41 #[.slice A n c, .agg #[.int .i64 (x.1 : Int), .int .i64 (x.2 : Int)]] w fun e w' => e = .returned (.bool true) ∧ Below w.heap.size w w' := by
  obtain ⟨k, hk, e⟩ := hv
  obtain ⟨j, hj, e1, e2⟩ := hfirst k hk e
  have HR := hid (hr.keep (bl_new w (.cells #[.int .i64 (x.1 : Int), .int .i64 (x.2 : Int)] 55)))
  have H1 := hid e1
  have H2 := hid e2
  clear hr e e1 e2
  go_enter Try.func41, Try.ntmps41
  go_wp2_with fail
  with_reducible refine (hindex_yes (x := x) HR.out hn hj H1.out H2.out).mono ?_
  rintro e w1 ⟨rfl, hb⟩
  go_wp2
  go_ret
  exact ⟨rfl, bl_then (bl_new w _) hb⟩
end Go.Proofs.Ytcnfdmpggnhlgaa
