
/-
The contract of word.periods: all periods, in order.
-/
import Derived.Test.YtapjodbaaejldaaBorders
namespace Go.Proofs.Ytapjodbaaejldaa
open Go.RowKit

/-- The periods of s, as numbers. -/
def perL (s : ByteArray) (k : Nat) : List Int := (Wm.pl (byt s) s.size k).map fun (d : Nat) => (d : Int)
theorem perL_jump {s : ByteArray} {k : Nat} (h : Wm.Bd (byt s) s.size k) (hk : 0 < k) : perL s k = ((s.size : Int) - (Wm.lb (byt s) k : Int)) :: perL s (Wm.lb (byt s) k) := by
  have := Wm.lb_lt (byt s) hk
  have := h.1
  unfold perL
  rw [Wm.pl_jump h hk, List.map_cons]
  congr 1
  omega
theorem perL_len (s : ByteArray) (k : Nat) : (perL s k).length ≤ k := by unfold perL; rw [List.length_map]; exact Wm.pl_len _ _ _
theorem perL_zero (s : ByteArray) : perL s 0 = [] := rfl

set_option maxHeartbeats 400000 in
theorem periods_any (s : ByteArray) (w : World) (hs : s.size ≤ 200) :
    Calls Try.prog 120 #[.string s] w (RetInts (perL s s.size).length (fun k => (perL s s.size).getD k 0) w) := by
  have hlen := perL_len s s.size
  go_enter Try.func120, Try.ntmps120
  go_wp2_with fail
  with_reducible refine (borders_any s _ hs).mono ?_
  rintro e w1 ⟨A, c, rfl, hrow, hbel⟩
  have HR := hid hrow
  clear hrow
  go_wp2
  go_loopw [4, 5] (fun v x wr => ∃ (k : Nat) (L : List Int), k ≤ s.size ∧ Hid (Wm.Bd (byt s) s.size k) ∧ x = .int .i64 k ∧ OwnI wr w1.heap.size v L ∧ Hid (L ++ perL s k = perL s s.size) ∧ Below w1.heap.size w1 wr)
    (fun _ x _ => (intOf x).toNat)
  case atStart => exact ⟨s.size, [], Nat.le_refl _, Wm.bd_self _ _, rfl, OwnI.zero _ _, rfl, Below.refl _ _⟩
  case round =>
    obtain ⟨k, L, hk, hbd, rfl, hown, hL, hnx⟩ := hrel
    have hLlen : L.length + (perL s k).length ≤ s.size := by
      have := congrArg List.length hL.out
      rw [List.length_append] at this
      omega
    by_cases hk0 : 0 < k
    · obtain ⟨b, o, rfl, hb, hc⟩ := HR.out.at_ (k := k - 1) (by omega)
      have hcell : wr.cell? ⟨b, o + (k - 1), none⟩ = some (.int .i64 (Wm.lb (byt s) k : Int)) := by
        rw [hnx.cell (p := ⟨b, o + (k - 1), none⟩) hb, hc, show k - 1 + 1 = k by omega]
      have hl := Wm.lb_lt (byt s) hk0
      have hkp := hid (Wm.bd_trans hbd.out (Wm.lb_bd (byt s) k))
      have hj := perL_jump hbd.out hk0
      have HJ := hid hj
      have hsz := hnx.size
      clear hj hc hb
      go_wp2_with (at_builtin; with_reducible refine app_int rfl _ _ rfl rfl hown _ rfl rfl hsz (by omega) ?_)
      intro v' w2 hown2 hb2
      have hnx2 := hnx.trans hb2
      clear hown hnx hcell hb2
      go_wp2
      go_roundw
      case rel => exact ⟨_, L ++ [_], by omega, hkp.out, rfl, hown2, by rw [List.append_assoc, List.singleton_append, ← HJ.out]; exact hL.out, hnx2⟩
      case measure => simp [intOf]; omega
    · go_wp2
      go_ret
      obtain rfl : k = 0 := by omega
      have hLs : L = perL s s.size := by have := hL.out; rwa [perL_zero, List.append_nil] at this
      subst hLs
      obtain ⟨A', c', rfl, hr⟩ := hown.irow
      exact ⟨_, _, rfl, hr, hbel.trans (hnx.mono hbel.size)⟩
end Go.Proofs.Ytapjodbaaejldaa
