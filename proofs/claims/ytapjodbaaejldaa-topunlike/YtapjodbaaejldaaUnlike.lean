
/-
The contracts of suffix.Unlike and suffix.Twice.
-/
import Derived.Test.YtapjodbaaejldaaOrder
namespace Go.Proofs.Ytapjodbaaejldaa
open Go.RowKit

theorem sa_size {s : ByteArray} {i : Nat} (h : i < s.size) : Sm.sa (lst s) i < s.size := by have := Sm.sa_lt (s := lst s) (k := i) (by rw [lst_len]; exact h); rwa [lst_len] at this
theorem c_size (s : ByteArray) (i : Nat) : Sm.C (lst s) i ≤ s.size - Sm.sa (lst s) i := by have := Sm.C_le (lst s) i; rwa [lst_len] at this
set_option maxHeartbeats 400000 in
theorem Unlike_ok (s : ByteArray) (w : World) (hs : s.size ≤ 200) :
    Calls Try.prog 53 #[.string s] w fun e w' => e = .returned (.tuple #[.int .i64 ((Sm.dl (lst s)).length : Nat), .int .i64 0]) ∧ Below w.heap.size w w' := by
  obtain ⟨Z, hZ⟩ : ∃ Z, Z = (Sm.dl (lst s)).length := ⟨_, rfl⟩
  rw [← hZ]
  have HZ := hid hZ
  clear hZ
  go_enter Try.func53, Try.ntmps53
  go_wp2_with fail
  with_reducible refine (check_ok s _ hs).mono ?_
  rintro e w1 ⟨rfl, rfl⟩
  go_wp2_with fail
  with_reducible refine (sorder_any s _ hs).mono ?_
  rintro e w1 ⟨rfl, hrow, hbel⟩
  have HR := hid hrow
  clear hrow
  go_wp2_with fail
  with_reducible refine (common_any s _ _ _ hs (irow_of HR.out)).mono ?_
  rintro e w2 ⟨rfl, hrow2, hbel2⟩
  have HR2 := hid hrow2
  have HR1 := hid ((irow_of HR.out).keep hbel2)
  have HB := hid (bl_then hbel hbel2)
  clear hrow2 HR hbel hbel2
  go_wp2
  go_loopw [5, 20] (fun x y wr => ∃ i c : Nat, i ≤ s.size ∧ c ≤ 1000 * i ∧ x = .int .i64 (c : Int) ∧ y = .int .i64 (i : Int) ∧ Hid (c = (Sm.PF (lst s) i).length) ∧ wr = w2) (fun _ y _ => s.size - (intOf y).toNat)
  case atStart => exact ⟨0, 0, by omega, by omega, rfl, rfl, rfl, rfl⟩
  case round =>
    obtain ⟨i, c, hi, hc, rfl, rfl, hpf, rfl⟩ := hrel
    by_cases hlt : i < s.size
    · have hlt' : (i : Int) < (s.size : Int) := by omega
      have hk := HR2.out.cell hlt
      obtain ⟨b, o, e, _, hp⟩ := HR1.out.at_ hlt
      obtain ⟨rfl, rfl⟩ : b = w.heap.size + 1 ∧ o = 0 := by injection e with e; injection e with e1 e2; exact ⟨e1.symm, e2.symm⟩
      rw [Nat.zero_add] at hp
      have h1 := sa_size hlt
      have h2 := c_size s i
      unfold cg at hk
      unfold sg at hp
      have HN := hid (Sm.PF_len (lst s) i)
      rw [lst_len] at HN
      generalize Sm.sa (lst s) i = p at hp h1 h2 HN
      generalize Sm.C (lst s) i = q at hk h2 HN
      clear e
      go_wp2
      go_roundw
      case rel => exact ⟨i + 1, c + (s.size - p - q), by omega, by omega, by go_num, by go_num, by show _ = _; rw [HN.out, ← hpf.out], by trivial⟩
      case measure => simp [intOf]; omega
    · obtain rfl : i = s.size := by omega
      have HE : Hid (c = Z) := by
        show _ = _
        rw [HZ.out, hpf.out]
        unfold Sm.dl
        rw [lst_len]
      obtain rfl : c = Z := HE.out
      clear hpf HE
      go_wp2
      go_ret2
      exact ⟨rfl, HB.out⟩
theorem Unlike_large (s : ByteArray) (w : World) (hs : 200 < s.size) :
    Calls Try.prog 53 #[.string s] w fun e w' => e = .returned (.tuple #[.int .i64 0, .int .i64 2]) ∧ w = w' := by
  go_enter Try.func53, Try.ntmps53
  go_wp2_with fail
  with_reducible refine (check_large s _ hs).mono ?_
  rintro e w1 ⟨rfl, rfl⟩
  go_wp2
  go_ret2
  exact ⟨rfl, rfl⟩
end Go.Proofs.Ytapjodbaaejldaa
