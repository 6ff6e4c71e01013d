
/-
The contract of seek.positions: all places at which p stands in s.
-/
import Derived.Test.YtapjodbaaejldaaWordB
import Derived.Test.YtapjodbaaejldaaMathAll
namespace Go.Proofs.Ytapjodbaaejldaa
open Go.RowKit

/-- The places below k at which p stands in s, as numbers. -/
def ocL (s p : ByteArray) (k : Nat) : List Int := (Wm.oc (byt s) (byt p) p.size k).map fun (d : Nat) => (d : Int)
theorem ocL_len (s p : ByteArray) (k : Nat) : (ocL s p k).length ≤ k := by unfold ocL; rw [List.length_map]; exact Wm.oc_len _ _ _ _
theorem ocL_hit {s p : ByteArray} {i : Nat} (hm : 0 < p.size) (h : Wm.Suf (byt s) (byt p) (i + 1) p.size) : ocL s p (i + 2 - p.size) = ocL s p (i + 1 - p.size) ++ [(i : Int) + 1 - (p.size : Int)] := by
  have := h.1
  unfold ocL
  rw [Wm.oc_hit hm h, List.map_append, List.map_singleton]
  congr 2
  omega
theorem ocL_not {s p : ByteArray} {i : Nat} (hm : 0 < p.size) (h : ¬ Wm.Suf (byt s) (byt p) (i + 1) p.size) : ocL s p (i + 2 - p.size) = ocL s p (i + 1 - p.size) := by
  unfold ocL
  rw [Wm.oc_not hm h]
/-- All places. -/
def fiL (s p : ByteArray) : List Int := ocL s p (s.size + 1 - p.size)

set_option maxHeartbeats 400000 in
theorem positions_any (s p : ByteArray) (A : Option Addr) (c : Nat) (w : World) (hs : s.size ≤ 200) (hp : p.size ≤ 200) (h0 : 0 < p.size) (hrow : IRow w A p.size (fun k => (Wm.lb (byt p) (k + 1) : Int))) :
    Calls Try.prog 88 #[.string s, .string p, .slice A p.size c] w (RetInts (fiL s p).length (fun k => (fiL s p).getD k 0) w) := by
  have HR := hid hrow
  clear hrow
  go_enter Try.func88, Try.ntmps88
  go_wp2
  go_loopw [7, 8, 12] (fun v x y wr => ∃ i q : Nat, i ≤ s.size ∧ q < p.size ∧ x = .int .i64 q ∧ y = .int .i64 i ∧ Hid (Wm.Kq (byt s) (byt p) p.size i q) ∧ OwnI wr w.heap.size v (ocL s p (i + 1 - p.size)) ∧ Below w.heap.size w wr)
    (fun _ _ y _ => s.size - (intOf y).toNat)
  case atStart => exact ⟨0, 0, by omega, by omega, rfl, rfl, Wm.kq_zero _ _ h0, by rw [show 0 + 1 - p.size = 0 by omega]; exact OwnI.zero _ _, Below.refl _ _⟩
  case round =>
    obtain ⟨i, q, hi, hq, rfl, rfl, hkq, hown, hbel⟩ := hrel
    by_cases hlt : i < s.size
    · have hlt' : (i : Int) < (s.size : Int) := by omega
      have hll := ocL_len s p (i + 1 - p.size)
      have hsz := hbel.size
      go_wp2
      go_loopw [8] (fun x w2 => ∃ k : Nat, k < p.size ∧ Hid (Wm.Ki (byt s) (byt p) p.size i k) ∧ x = .int .i64 k ∧ ∃ d, w2 = wr.drewN d) (fun x _ => (intOf x).toNat)
      case atStart => exact ⟨q, hq, Wm.kq_ki hkq.out, rfl, 0, rfl⟩
      case round =>
        obtain ⟨k, hk, hki, rfl, d, rfl⟩ := hrel
        have hk' : (k : Int) < (p.size : Int) := by omega
        by_cases he : byt p k = byt s i
        · have hne : ((p[k].toNat : Int) != (s[i].toNat : Int)) = false := by rw [← byt_eq hk, ← byt_eq hlt, he]; simp
          have heq : ((p[k].toNat : Int) == (s[i].toNat : Int)) = true := by rw [← byt_eq hk, ← byt_eq hlt, he]; simp
          by_cases hfull : k + 1 = p.size
          · obtain ⟨hk2, hs2⟩ := Wm.ki_full hki.out he hfull
            have HK := hid hk2
            have HS := hid (ocL_hit h0 hs2)
            have hl := Wm.lb_lt (byt p) h0
            obtain ⟨b, o, rfl, hb, hc⟩ := HR.out.at_ (k := p.size - 1) (by omega)
            rw [show p.size - 1 + 1 = p.size by omega] at hc
            have hc2 : wr.cell? ⟨b, o + (p.size - 1), none⟩ = some (.int .i64 (Wm.lb (byt p) p.size : Int)) := by
              rw [hbel.cell (p := ⟨b, o + (p.size - 1), none⟩) hb, hc]
            have HO := hid hown
            have hf2 : ((k : Int) + 1 == (p.size : Int)) = true := by rw [beq_iff_eq]; omega
            have hkp : (k : Int) + 1 = (p.size : Int) := by omega
            clear he hki hk2 hs2 hc hown
            by_cases hk0 : 0 < k
            · go_wp2
              go_quiet (fail)
              go_wp2
              go_quiet (fail)
              go_wp2_with (at_builtin; with_reducible refine app_int (wr := wr.drewN _) rfl _ _ rfl rfl (HO.out.drewN _) wr.heap.size (by simp) rfl hsz (by omega) ?_)
              intro v' w2 hown2 hb2
              have hbel2 := (bl_drewN hbel _).trans hb2
              have hc3 : w2.cell? ⟨b, o + (p.size - 1), none⟩ = some (.int .i64 (Wm.lb (byt p) p.size : Int)) := (hb2.cell (p := ⟨b, o + (p.size - 1), none⟩) hb).trans hc2
              have HO2 := hid hown2
              clear hb2 hown2 hc2 HO
              go_wp2
              go_roundw
              case rel => exact ⟨i + 1, _, by omega, hl, rfl, by go_num, HK.out, by rw [show i + 1 + 1 - p.size = i + 2 - p.size by omega, HS.out]; exact HO2.out, hbel2⟩
              case measure => simp [intOf]; omega
            · have hd0 : decide ((0 : Int) < (k : Int)) = false := by simp; omega
              go_wp2
              go_quiet (fail)
              go_wp2
              go_quiet (fail)
              go_wp2_with (at_builtin; with_reducible refine app_int (wr := wr.drewN _) rfl _ _ rfl rfl (HO.out.drewN _) wr.heap.size (by simp) rfl hsz (by omega) ?_)
              intro v' w2 hown2 hb2
              have hbel2 := (bl_drewN hbel _).trans hb2
              have hc3 : w2.cell? ⟨b, o + (p.size - 1), none⟩ = some (.int .i64 (Wm.lb (byt p) p.size : Int)) := (hb2.cell (p := ⟨b, o + (p.size - 1), none⟩) hb).trans hc2
              have HO2 := hid hown2
              clear hb2 hown2 hc2 HO
              go_wp2
              go_roundw
              case rel => exact ⟨i + 1, _, by omega, hl, rfl, by go_num, HK.out, by rw [show i + 1 + 1 - p.size = i + 2 - p.size by omega, HS.out]; exact HO2.out, hbel2⟩
              case measure => simp [intOf]; omega
          · obtain ⟨hk2, hs2⟩ := Wm.ki_hit hki.out he (by omega)
            have HK := hid hk2
            have HS := hid (ocL_not h0 hs2)
            have hf2 : ((k : Int) + 1 == (p.size : Int)) = false := by rw [beq_eq_false_iff_ne]; omega
            have HO := hid hown
            clear he hki hk2 hs2 hown
            by_cases hk0 : 0 < k
            · go_wp2
              go_quiet (fail)
              go_wp2
              go_quiet (fail)
              go_wp2
              go_roundw
              case rel => exact ⟨i + 1, k + 1, by omega, by omega, by go_num, by go_num, HK.out, by rw [show i + 1 + 1 - p.size = i + 2 - p.size by omega, HS.out]; exact HO.out.drewN _, bl_drewN hbel _⟩
              case measure => simp [intOf]; omega
            · have hd0 : decide ((0 : Int) < (k : Int)) = false := by simp; omega
              go_wp2
              go_quiet (fail)
              go_wp2
              go_quiet (fail)
              go_wp2
              go_roundw
              case rel => exact ⟨i + 1, k + 1, by omega, by omega, by go_num, by go_num, HK.out, by rw [show i + 1 + 1 - p.size = i + 2 - p.size by omega, HS.out]; exact HO.out.drewN _, bl_drewN hbel _⟩
              case measure => simp [intOf]; omega
        · have hne : ((p[k].toNat : Int) != (s[i].toNat : Int)) = true := by rw [← byt_eq hk, ← byt_eq hlt]; exact (byte_ne he).1
          have heq : ((p[k].toNat : Int) == (s[i].toNat : Int)) = false := by rw [← byt_eq hk, ← byt_eq hlt]; exact (byte_ne he).2
          by_cases hk0 : 0 < k
          · obtain ⟨b, o, rfl, hb, hc⟩ := HR.out.at_ (k := k - 1) (by omega)
            rw [show k - 1 + 1 = k by omega] at hc
            have hc2 : wr.cell? ⟨b, o + (k - 1), none⟩ = some (.int .i64 (Wm.lb (byt p) k : Int)) := by
              rw [hbel.cell (p := ⟨b, o + (k - 1), none⟩) hb, hc]
            have HK := hid (Wm.ki_down hki.out hk0 he)
            have hl := Wm.lb_lt (byt p) hk0
            clear he hc hb
            go_wp2
            go_quiet (fail)
            go_wp2
            go_roundw
            case rel => exact ⟨_, by omega, HK.out, rfl, _, rfl⟩
            case measure => simp [intOf]; omega
          · have hd0 : decide ((0 : Int) < (k : Int)) = false := by simp; omega
            obtain rfl : k = 0 := by omega
            obtain ⟨hk2, hs2⟩ := Wm.ki_miss hki.out he
            have HK := hid hk2
            have HS := hid (ocL_not h0 hs2)
            have HO := hid hown
            have hf2 : ((0 : Int) == (p.size : Int)) = false := by rw [beq_eq_false_iff_ne]; omega
            clear he hki hk2 hs2 hown
            go_wp2
            go_quiet (fail)
            go_wp2
            go_quiet (fail)
            go_wp2
            go_roundw
            case rel => exact ⟨i + 1, 0, by omega, by omega, by go_num, by go_num, HK.out, by rw [show i + 1 + 1 - p.size = i + 2 - p.size by omega, HS.out]; exact HO.out.drewN _, bl_drewN hbel _⟩
            case measure => simp [intOf]; omega
    · go_wp2
      go_ret
      obtain rfl : i = s.size := by omega
      obtain ⟨A', c', rfl, hr⟩ := hown.irow
      exact ⟨_, _, rfl, hr, hbel⟩
end Go.Proofs.Ytapjodbaaejldaa
