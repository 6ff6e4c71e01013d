/-
The contracts of package quillref's functions on searching: Alike, FindOf.
-/
import Derived.Test.YtdkdnhbdfcfkkaaDoorPositions
import Derived.Test.YtdkdnhbdfcfkkaaDoorStr
namespace Go.Proofs.YtdkdnhbdfcfkkaaDoor
open Go.RowKit

theorem zg_congr {f h h' : Nat → UInt8} : ∀ c k, (∀ t, t < k + c → h t = h' t) → Wm.zg f h c k = Wm.zg f h' c k := by
  intro c
  induction c with
  | zero => intro k _; rfl
  | succ c ih =>
    intro k e
    rw [Wm.zg, Wm.zg, e k (by omega), ih (k + 1) (fun t ht => e t (by omega))]
theorem zg_step {f h : Nat → UInt8} {c k : Nat} (e : f k = h k) : Wm.zg f h (c + 1) k = Wm.zg f h c (k + 1) := by rw [Wm.zg, if_pos e]
theorem zg_stop {f h : Nat → UInt8} {c k : Nat} (e : ¬ f k = h k) : Wm.zg f h (c + 1) k = k := by rw [Wm.zg, if_neg e]
theorem refAlike_any (a b : ByteArray) (w : World) (ha : a.size ≤ 200) (hba : b.size ≤ a.size) :
    Calls Tryd.prog 8 #[.string a, .string b] w fun e w' => e = .returned (.int .i64 (Wm.zg (byt a) (byt b) b.size 0 : Nat)) ∧ Drew w w' := by
  obtain ⟨Z, hZ⟩ : ∃ Z, Z = Wm.zg (byt a) (byt b) b.size 0 := ⟨_, rfl⟩
  rw [← hZ]
  have HZ := hid hZ
  have hmin : (if b.size < a.size then (b.size : Int) else (a.size : Int)) = (b.size : Int) := by split <;> omega
  clear hZ
  go_enter Tryd.func8, Tryd.ntmps8
  go_wp2
  go_loopw [5] (fun x wr => ∃ k : Nat, k ≤ b.size ∧ x = .int .i64 k ∧ Hid (Wm.zg (byt a) (byt b) (b.size - k) k = Z) ∧ ∃ d, wr = w.drewN d) (fun x _ => b.size - (intOf x).toNat)
  case atStart => exact ⟨0, Nat.zero_le _, rfl, by show _ = _; rw [Nat.sub_zero]; exact HZ.out.symm, 0, rfl⟩
  case round =>
    obtain ⟨k, hk, rfl, hz, d, rfl⟩ := hrel
    by_cases hlt : k < b.size
    · have hka : k < a.size := by omega
      have hlt' : (k : Int) < (b.size : Int) := by omega
      have hka' : (k : Int) < (a.size : Int) := by omega
      have hz2 := hz.out
      rw [show b.size - k = (b.size - (k + 1)) + 1 by omega] at hz2
      by_cases he : byt a k = byt b k
      · rw [zg_step he] at hz2
        have HZ2 := hid hz2
        have heq : ((a[k].toNat : Int) == (b[k].toNat : Int)) = true := by rw [← byt_eq hka, ← byt_eq hlt, he]; simp
        clear he hz2
        go_wp2
        go_quiet (fail)
        go_wp2
        go_roundw
        case rel => exact ⟨k + 1, by omega, by go_num, HZ2.out, _, rfl⟩
        case measure => simp [intOf]; omega
      · rw [zg_stop he] at hz2
        have HZ2 := hid hz2
        have heq : ((a[k].toNat : Int) == (b[k].toNat : Int)) = false := by rw [← byt_eq hka, ← byt_eq hlt]; exact (byte_ne he).2
        clear he hz2
        go_wp2
        go_quiet (fail)
        go_wp2
        go_ret
        exact ⟨ret_int (by rw [HZ2.out]), (Drew.is_ w d).more _⟩
    · have hz2 := hz.out
      obtain rfl : k = b.size := by omega
      rw [Nat.sub_self, Wm.zg] at hz2
      have HZ2 := hid hz2
      clear hz2
      go_wp2
      go_quiet (fail)
      go_wp2
      go_ret
      exact ⟨ret_int (by rw [HZ2.out]), (Drew.is_ w d).more _⟩

theorem find_cmp {s p : ByteArray} {i : Nat} (hi : i + p.size ≤ s.size) : ((s.extract i (i + p.size)).size = p.size ∧ ∀ t, t < (s.extract i (i + p.size)).size → byt (s.extract i (i + p.size)) t = byt p t) ↔ Wm.At (byt s) (byt p) p.size i := by
  rw [size_ext]
  unfold Wm.At
  constructor
  · rintro ⟨_, h⟩ t ht
    have := h t (by omega)
    rw [byt_ext (by omega)] at this
    exact this.symm
  · intro h
    refine ⟨by omega, fun t ht => ?_⟩
    rw [byt_ext (by omega)]
    exact (h t (by omega)).symm
theorem ocL_yes {s p : ByteArray} {i : Nat} (h : Wm.At (byt s) (byt p) p.size i) : ocL s p (i + 1) = ocL s p i ++ [(i : Int)] := by
  unfold ocL; rw [Wm.oc, if_pos h, List.map_append]; rfl
theorem ocL_no {s p : ByteArray} {i : Nat} (h : ¬ Wm.At (byt s) (byt p) p.size i) : ocL s p (i + 1) = ocL s p i := by
  unfold ocL; rw [Wm.oc, if_neg h]
set_option maxHeartbeats 400000 in
theorem findOf_any (s p : ByteArray) (w : World) (hs : s.size ≤ 200) (hp : p.size ≤ 200) (h0 : 0 < p.size) :
    Calls Tryd.prog 10 #[.string s, .string p] w (RetInts (fiL s p).length (fun k => (fiL s p).getD k 0) w) := by
  go_enter Tryd.func10, Tryd.ntmps10
  go_wp2
  go_loopw [5, 6] (fun v x wr => ∃ i : Nat, i ≤ s.size + 1 - p.size ∧ x = .int .i64 i ∧ OwnI wr w.heap.size v (ocL s p i) ∧ Below w.heap.size w wr) (fun _ x _ => s.size + 1 - p.size - (intOf x).toNat)
  case atStart => exact ⟨0, by omega, rfl, OwnI.zero _ _, Below.refl _ _⟩
  case round =>
    obtain ⟨i, hi, rfl, hown, hbel⟩ := hrel
    by_cases hle : i + p.size ≤ s.size
    · obtain ⟨j, hj⟩ : ∃ j, j = i + p.size := ⟨_, rfl⟩
      have eij : (i : Int) + (p.size : Int) = (j : Int) := by omega
      have hjs : (j : Int) ≤ (s.size : Int) := by omega
      have hij : (i : Int) ≤ (j : Int) := by omega
      have hll := ocL_len s p i
      have hsz := hbel.size
      by_cases hat : Wm.At (byt s) (byt p) p.size i
      · have hcmp := beq_true ((find_cmp hle).2 hat)
        rw [← hj] at hcmp
        have HY := hid (ocL_yes hat)
        clear hat hj
        go_wp2_with (at_builtin; with_reducible refine app_int rfl _ _ rfl rfl hown _ rfl rfl hsz (by omega) ?_)
        intro v' w2 hown2 hb2
        have hbel2 := hbel.trans hb2
        have HO := hid hown2
        clear hown hbel hb2 hown2
        go_wp2
        go_roundw
        case rel => exact ⟨i + 1, by omega, by go_num, by rw [HY.out]; exact HO.out, hbel2⟩
        case measure => simp [intOf]; omega
      · have hcmp := beq_false (fun h => hat ((find_cmp hle).1 h))
        rw [← hj] at hcmp
        have HY := hid (ocL_no hat)
        clear hat hj
        go_wp2
        go_roundw
        case rel => exact ⟨i + 1, by omega, by go_num, by rw [HY.out]; exact hown, hbel⟩
        case measure => simp [intOf]; omega
    · have hgt : decide ((i : Int) + (p.size : Int) ≤ (s.size : Int)) = false := by simp; omega
      go_wp2
      go_ret
      obtain rfl : i = s.size + 1 - p.size := by omega
      obtain ⟨A, c, rfl, hr⟩ := hown.irow
      exact ⟨_, _, rfl, hr, hbel⟩
end Go.Proofs.YtdkdnhbdfcfkkaaDoor
