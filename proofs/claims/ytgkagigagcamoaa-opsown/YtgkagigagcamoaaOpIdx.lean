
/-
slices.Index and slices.Contains at rows of ops.
-/
import Derived.Test.YtgkagigagcamoaaOpEqual
namespace Go.Proofs.Ytgkagigagcamoaa.Sh
def has (L : List Op) (x : Op) : Bool := L.any fun y => opB y.k y.a (y.b.toNat : Int) x.k x.a (x.b.toNat : Int)
theorem has_iff {L : List Op} {x : Op} : has L x = true ↔ x ∈ L := by
  unfold has
  rw [List.any_eq_true]
  exact ⟨fun ⟨y, h1, h2⟩ => opB_iff.1 h2 ▸ h1, fun h => ⟨x, h, opB_iff.2 rfl⟩⟩
theorem has_no {L : List Op} {x : Op} : has L x = false ↔ x ∉ L := by rw [← Bool.not_eq_true, has_iff]
end Go.Proofs.Ytgkagigagcamoaa.Sh
namespace Go.Proofs.Ytgkagigagcamoaa
open Go.RowKit

set_option maxHeartbeats 1000000 in
theorem opIdx_any {A : Option Addr} {n c : Nat} {h : Nat → Sh.Op} (x : Sh.Op) (w : World) (hr : OpRow w A n h) (hn : n ≤ maxLen) :
    Calls Try.prog 45 #[.slice A n c, .agg #[.int .i64 x.k, .int .i64 x.a, .int .u8 (x.b.toNat : Int)]] w fun e w' =>
      (∃ z : Int, e = .returned (.int .i64 z) ∧ decide (0 ≤ z) = Sh.has (ol h n) x) ∧ Below w.heap.size w w' := by
  have hq := op_eql
  have hgd := op_guard
  have H := hid (hr.keep (bl_new w (.cells #[.int .i64 x.k, .int .i64 x.a, .int .u8 (x.b.toNat : Int)] 23)))
  have HX := hid (op_new w x 23)
  have HB := hid (bl_new w (.cells #[.int .i64 x.k, .int .i64 x.a, .int .u8 (x.b.toNat : Int)] 23))
  unfold maxLen at hn
  clear hr
  go_enter Try.func45, Try.ntmps45
  go_wp2
  generalize w.alloc (.cells #[.int .i64 x.k, .int .i64 x.a, .int .u8 (x.b.toNat : Int)] 23) = w0 at *
  obtain ⟨x0, x1, x2⟩ := HX.out
  go_loopw [8] (fun i wr => ∃ k : Nat, k ≤ n ∧ i = .int .i64 k ∧ Hid (∀ j, j < k → h j ≠ x) ∧ ∃ d, wr = w0.drewN d) (fun i _ => n - (intOf i).toNat)
  case atStart => exact ⟨0, by omega, rfl, hid (fun j hj => by omega), 0, rfl⟩
  case round =>
    obtain ⟨k, hk, rfl, HZ, d, rfl⟩ := hrel
    by_cases hkn : k < n
    · obtain ⟨b, o, rfl, hlt, c0, c1, c2⟩ := H.out k hkn
      have hkn' : (k : Int) < (n : Int) := by omega
      clear hlt
      obtain ⟨y, hy⟩ : ∃ y, y = h k := ⟨_, rfl⟩
      have HY := hid hy
      rw [← hy] at c0 c1 c2
      clear hy
      by_cases he : x = y
      · have HF : Hid (decide (0 ≤ (k : Int)) = Sh.has (ol h n) x) := by
          show _ = _
          rw [decide_eq_true (by omega)]
          refine (Sh.has_iff.2 ?_).symm
          rw [he, HY.out]
          unfold ol
          exact List.mem_map.2 ⟨k, List.mem_range.2 hkn, rfl⟩
        subst he
        have hb1 := opB_same x.k x.a (x.b.toNat : Int)
        clear HZ
        go_wp2
        go_quiet (fail)
        go_wp2
        go_ret
        exact ⟨⟨_, rfl, HF.out⟩, bl_drewN (bl_drewN HB.out _) _⟩
      · have hb1 := opB_no he
        have HZ2 : Hid (∀ j, j < k + 1 → h j ≠ x) := fun j hj => by
          by_cases hjk : j < k
          · exact HZ.out j hjk
          · obtain rfl : j = k := by omega
            rw [← HY.out]; exact fun e => he e.symm
        clear he HZ
        go_wp2
        go_quiet (fail)
        go_wp2
        go_roundw
        case measure => simp [intOf]; omega
        case rel => exact ⟨k + 1, by omega, by go_num, HZ2, _, rfl⟩
    · have hdl : decide ((k : Int) < (n : Int)) = false := decide_eq_false (by omega)
      obtain rfl : k = n := by omega
      have HF : Hid (decide (0 ≤ (-1 : Int)) = Sh.has (ol h k) x) := by
        show _ = _
        rw [decide_eq_false (by decide)]
        refine (Sh.has_no.2 fun hm => ?_).symm
        unfold ol at hm
        obtain ⟨j, hj, e⟩ := List.mem_map.1 hm
        exact HZ.out j (List.mem_range.1 hj) e
      clear HZ
      go_wp2
      go_ret
      exact ⟨⟨_, rfl, HF.out⟩, bl_drewN HB.out _⟩
theorem opHas_any {A : Option Addr} {n c : Nat} {h : Nat → Sh.Op} (x : Sh.Op) (w : World) (hr : OpRow w A n h) (hn : n ≤ maxLen) :
    Calls Try.prog 28 #[.slice A n c, .agg #[.int .i64 x.k, .int .i64 x.a, .int .u8 (x.b.toNat : Int)]] w fun e w' => e = .returned (.bool (Sh.has (ol h n) x)) ∧ Below w.heap.size w w' := by
  have HI := hid (opIdx_any (c := c) x _ (hr.keep (bl_new w (.cells #[.int .i64 x.k, .int .i64 x.a, .int .u8 (x.b.toNat : Int)] 23))) hn)
  obtain ⟨x0, x1, x2⟩ := op_new w x 23
  have HB := hid (bl_new w (.cells #[.int .i64 x.k, .int .i64 x.a, .int .u8 (x.b.toNat : Int)] 23))
  clear hr
  go_enter Try.func28, Try.ntmps28
  go_wp2_with fail
  with_reducible refine HI.out.mono ?_
  rintro e w1 ⟨⟨z, rfl, hz⟩, hb⟩
  have HZ := hid hz
  have HB2 := hid (bl_then HB.out hb)
  clear hz hb x0 x1 x2
  go_wp2
  go_ret
  exact ⟨ret_bool HZ.out, HB2.out⟩
end Go.Proofs.Ytgkagigagcamoaa
