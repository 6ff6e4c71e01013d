/-
The contracts of package quillref's functions on words: Long, BordersOf, Period, PeriodsOf.
-/
import Derived.Test.YtihidlcepdpjoaaStr
import Derived.Test.YtihidlcepdpjoaaPeriods
namespace Go.Proofs.Ytihidlcepdpjoaa
open Go.RowKit

theorem long_ok (s : ByteArray) (b : Nat) (w : World) (hc : w.cell? ⟨b, 0, none⟩ = some (.string s)) (hs : s.size ≤ 200) :
    Calls Try.prog 14 #[.slice (some ⟨b, 0, none⟩) 1 1] w fun e w' => e = .returned (.int .i64 0) ∧ w = w' := by
  go_enter Try.func14, Try.ntmps14
  go_wp2
  go_loop [7] (fun i => ∃ k : Nat, k ≤ 1 ∧ i = .int .i64 k) (fun i => 1 - (intOf i).toNat)
  case atStart => exact ⟨0, by omega, rfl⟩
  case round =>
    obtain ⟨k, hk, rfl⟩ := hrel
    by_cases h : k < 1
    · have hc' : w.cell? ⟨b, k, none⟩ = some (.string s) := by rw [show k = 0 by omega]; exact hc
      go_wp2
      go_round
      case rel => exact ⟨k + 1, by omega, by go_num⟩
      case measure => simp [intOf]; omega
    · go_wp2
      go_ret
      exact ⟨rfl, rfl⟩
theorem long_large (s : ByteArray) (b : Nat) (w : World) (hc : w.cell? ⟨b, 0, none⟩ = some (.string s)) (hs : 200 < s.size) :
    Calls Try.prog 14 #[.slice (some ⟨b, 0, none⟩) 1 1] w fun e w' => e = .returned (.int .i64 2) ∧ w = w' := by
  go_enter Try.func14, Try.ntmps14
  go_wp2
  go_loop [7] (fun i => i = .int .i64 0) (fun _ => 0)
  case atStart => rfl
  case round =>
    subst hrel
    go_wp2
    go_ret
    exact ⟨rfl, rfl⟩

/-- The comparison that BordersOf makes. -/
theorem bd_cmp {s : ByteArray} {n k : Nat} (hk : k ≤ n) (hn : n ≤ s.size) : ((s.extract 0 k).size = (s.extract (n - k) n).size ∧ ∀ i, i < (s.extract 0 k).size → byt (s.extract 0 k) i = byt (s.extract (n - k) n) i) ↔ Wm.Bd (byt s) n k := by
  rw [size_ext, size_ext]
  constructor
  · rintro ⟨_, h⟩
    refine ⟨hk, fun t ht => ?_⟩
    have := h t (by omega)
    rwa [byt_ext (by omega), byt_ext (by omega), Nat.zero_add] at this
  · intro h
    refine ⟨by omega, fun t ht => ?_⟩
    rw [byt_ext (by omega), byt_ext (by omega), Nat.zero_add]
    exact h.2 t (by omega)

/-- The longest borders of the prefixes of up to n bytes. -/
def lbL (s : ByteArray) (n : Nat) : List Int := (List.range n).map fun (k : Nat) => (Wm.lb (byt s) (k + 1) : Int)
theorem lbL_succ (s : ByteArray) (n : Nat) : lbL s (n + 1) = lbL s n ++ [(Wm.lb (byt s) (n + 1) : Int)] := by unfold lbL; rw [List.range_succ, List.map_append]; rfl
theorem lbL_len (s : ByteArray) (n : Nat) : (lbL s n).length = n := by unfold lbL; simp
theorem lbL_get {s : ByteArray} {n k : Nat} (h : k < n) : (lbL s n).getD k 0 = (Wm.lb (byt s) (k + 1) : Int) := by
  unfold lbL
  simp [List.getD_eq_getElem?_getD, List.getElem?_range h]

set_option maxHeartbeats 400000 in
theorem bordersOf_any (s : ByteArray) (w : World) (hs : s.size ≤ 200) :
    Calls Try.prog 18 #[.string s] w (RetInts s.size (fun k => (Wm.lb (byt s) (k + 1) : Int)) w) := by
  go_enter Try.func18, Try.ntmps18
  go_wp2
  go_loopw [3, 4] (fun v x wr => ∃ n : Nat, 1 ≤ n ∧ n ≤ s.size + 1 ∧ x = .int .i64 n ∧ OwnI wr w.heap.size v (lbL s (n - 1)) ∧ Below w.heap.size w wr) (fun _ x _ => s.size + 1 - (intOf x).toNat)
  case atStart => exact ⟨1, by omega, by omega, rfl, OwnI.zero _ _, Below.refl _ _⟩
  case round =>
    obtain ⟨n, hn1, hn2, rfl, hown, hbel⟩ := hrel
    by_cases hlt : n ≤ s.size
    · go_wp2
      go_loopw [5] (fun x w2 => ∃ k : Nat, k < n ∧ x = .int .i64 k ∧ Hid (∀ j, j < n → Wm.Bd (byt s) n j → j ≤ k) ∧ ∃ d, w2 = wr.drewN d) (fun x _ => (intOf x).toNat)
      case atStart => exact ⟨n - 1, by omega, by go_num, fun j hj _ => by omega, 0, rfl⟩
      case round =>
        obtain ⟨k, hk, rfl, hmax, d, rfl⟩ := hrel
        have e1 : (n : Int) - (k : Int) = ((n - k : Nat) : Int) := by omega
        have hk' : (k : Int) ≤ (s.size : Int) := by omega
        have hn' : (n : Int) ≤ (s.size : Int) := by omega
        have hnk : (k : Int) ≤ (n : Int) := by omega
        by_cases hb : Wm.Bd (byt s) n k
        · have hcmp := beq_true ((bd_cmp (by omega) hlt).2 hb)
          have hfin := hid (Wm.lb_unique (byt s) hk hb hmax.out)
          clear hb
          go_wp2
          go_quiet (fail)
          have hsz := hbel.size
          have hll := lbL_len s (n - 1)
          go_wp2_with (at_builtin; with_reducible refine app_int (wr := wr.drewN _) rfl _ _ rfl rfl (hown.drewN _) wr.heap.size (by simp) rfl hsz (by omega) ?_)
          intro v' w2 hown2 hb2
          have hbel2 := (bl_drewN hbel _).trans hb2
          have HO := hid hown2
          clear hown hbel hb2 hcmp hown2
          go_wp2
          go_roundw
          case rel =>
            refine ⟨n + 1, by omega, by omega, by go_num, ?_, hbel2⟩
            rw [show n + 1 - 1 = (n - 1) + 1 by omega, lbL_succ, show n - 1 + 1 = n by omega, hfin.out]
            exact HO.out
          case measure => simp [intOf]; omega
        · have hcmp := beq_false (fun h => hb ((bd_cmp (by omega) hlt).1 h))
          have hk0 : 0 < k := by
            rcases Nat.eq_zero_or_pos k with h | h
            · subst h; exact absurd (Wm.bd_zero _ _) hb
            · exact h
          have hm2 : ∀ j, j < n → Wm.Bd (byt s) n j → j ≤ k - 1 := by
            intro j h1 h2
            have := hmax.out j h1 h2
            have hne : j ≠ k := fun e => hb (e ▸ h2)
            omega
          have HM := hid hm2
          clear hb hm2
          go_wp2
          go_quiet (fail)
          go_wp2
          go_roundw
          case rel => exact ⟨k - 1, by omega, by go_num, HM.out, _, rfl⟩
          case measure => simp [intOf]; omega
    · go_wp2
      go_ret
      obtain rfl : n = s.size + 1 := by omega
      obtain ⟨A, c, rfl, hr⟩ := hown.irow
      rw [lbL_len, Nat.add_sub_cancel] at hr ⊢
      exact ⟨_, _, rfl, hr.congr fun k hk => lbL_get hk, hbel⟩

/-- The comparison that Period makes. -/
theorem per_cmp {s : ByteArray} {p : Nat} (hp : p ≤ s.size) : ((s.extract p s.size).size = (s.extract 0 (s.size - p)).size ∧ ∀ i, i < (s.extract p s.size).size → byt (s.extract p s.size) i = byt (s.extract 0 (s.size - p)) i) ↔ Wm.Bd (byt s) s.size (s.size - p) := by
  rw [Wm.bd_per (by omega), show s.size - (s.size - p) = p by omega, size_ext, size_ext]
  constructor
  · rintro ⟨_, h⟩ i hi
    have := h i (by omega)
    rw [byt_ext (by omega), byt_ext (by omega), Nat.zero_add, Nat.add_comm] at this
    exact this.symm
  · intro h
    refine ⟨by omega, fun i hi => ?_⟩
    rw [byt_ext (by omega), byt_ext (by omega), Nat.zero_add, Nat.add_comm]
    exact (h i (by omega)).symm

theorem period_yes (s : ByteArray) (p : Nat) (w : World) (hs : s.size ≤ 200) (h1 : 1 ≤ p) (h2 : p ≤ s.size) (hb : Wm.Bd (byt s) s.size (s.size - p)) :
    Calls Try.prog 30 #[.string s, .int .i64 p] w fun e w' => e = .returned (.bool true) ∧ ∃ d, w' = w.drewN d := by
  have hcmp := beq_true ((per_cmp h2).2 hb)
  clear hb
  have e1 : (s.size : Int) - (p : Int) = ((s.size - p : Nat) : Int) := by omega
  have h1' : (1 : Int) ≤ (p : Int) := by omega
  have h2' : (p : Int) ≤ (s.size : Int) := by omega
  go_enter Try.func30, Try.ntmps30
  go_wp2
  go_quiet (fail)
  go_wp2
  go_ret
  exact ⟨rfl, _, rfl⟩
theorem period_no (s : ByteArray) (p : Nat) (w : World) (hs : s.size ≤ 200) (h1 : 1 ≤ p) (h2 : p ≤ s.size) (hb : ¬ Wm.Bd (byt s) s.size (s.size - p)) :
    Calls Try.prog 30 #[.string s, .int .i64 p] w fun e w' => e = .returned (.bool false) ∧ ∃ d, w' = w.drewN d := by
  have hcmp := beq_false (fun h => hb ((per_cmp h2).1 h))
  clear hb
  have e1 : (s.size : Int) - (p : Int) = ((s.size - p : Nat) : Int) := by omega
  have h1' : (1 : Int) ≤ (p : Int) := by omega
  have h2' : (p : Int) ≤ (s.size : Int) := by omega
  go_enter Try.func30, Try.ntmps30
  go_wp2
  go_quiet (fail)
  go_wp2
  go_ret
  exact ⟨rfl, _, rfl⟩

theorem perL_succ (s : ByteArray) (k : Nat) : perL s (k + 1) = if Wm.Bd (byt s) s.size k then ((s.size - k : Nat) : Int) :: perL s k else perL s k := by
  unfold perL
  rw [Wm.pl]
  split
  · rw [List.map_cons]
  · rfl

set_option maxHeartbeats 400000 in
theorem periodsOf_any (s : ByteArray) (w : World) (hs : s.size ≤ 200) :
    Calls Try.prog 19 #[.string s] w (RetInts (perL s s.size).length (fun k => (perL s s.size).getD k 0) w) := by
  have hlen := perL_len s s.size
  go_enter Try.func19, Try.ntmps19
  go_wp2
  go_loopw [3, 4] (fun v x wr => ∃ (p : Nat) (L : List Int), 1 ≤ p ∧ p ≤ s.size + 1 ∧ x = .int .i64 p ∧ OwnI wr w.heap.size v L ∧ Hid (L ++ perL s (s.size + 1 - p) = perL s s.size) ∧ Below w.heap.size w wr) (fun _ x _ => s.size + 1 - (intOf x).toNat)
  case atStart => exact ⟨1, [], by omega, by omega, rfl, OwnI.zero _ _, rfl, Below.refl _ _⟩
  case round =>
    obtain ⟨p, L, hp1, hp2, rfl, hown, hL, hbel⟩ := hrel
    have hLlen : L.length ≤ s.size := by
      have := congrArg List.length hL.out
      rw [List.length_append] at this
      omega
    by_cases hlt : p ≤ s.size
    · have hsz := hbel.size
      have hj := perL_succ s (s.size - p)
      rw [show s.size - p + 1 = s.size + 1 - p by omega, show s.size - (s.size - p) = p by omega] at hj
      by_cases hb : Wm.Bd (byt s) s.size (s.size - p)
      · rw [if_pos hb] at hj
        have HJ := hid hj
        have HB := hid hb
        clear hj hb
        go_wp2_with fail
        with_reducible refine (period_yes s p _ hs hp1 hlt HB.out).mono ?_
        rintro e w1 ⟨rfl, d, rfl⟩
        go_wp2_with (at_builtin; with_reducible refine app_int (wr := wr.drewN _) rfl _ _ rfl rfl (hown.drewN _) wr.heap.size (by simp) rfl hsz (by omega) ?_)
        intro v' w2 hown2 hb2
        have hbel2 := (bl_drewN hbel _).trans hb2
        have HO := hid hown2
        clear hown hbel hb2 hown2
        go_wp2
        go_roundw
        case rel =>
          refine ⟨p + 1, _, by omega, by omega, by go_num, HO.out, ?_, hbel2⟩
          rw [List.append_assoc, List.singleton_append, show s.size + 1 - (p + 1) = s.size - p by omega, ← HJ.out]
          exact hL.out
        case measure => simp [intOf]; omega
      · rw [if_neg hb] at hj
        have HJ := hid hj
        have HB := hid hb
        clear hj hb
        go_wp2_with fail
        with_reducible refine (period_no s p _ hs hp1 hlt HB.out).mono ?_
        rintro e w1 ⟨rfl, d, rfl⟩
        go_wp2
        go_roundw
        case rel =>
          refine ⟨p + 1, L, by omega, by omega, by go_num, hown.drewN _, ?_, bl_drewN hbel _⟩
          rw [show s.size + 1 - (p + 1) = s.size - p by omega, ← HJ.out]
          exact hL.out
        case measure => simp [intOf]; omega
    · go_wp2
      go_ret
      obtain rfl : p = s.size + 1 := by omega
      have hLs : L = perL s s.size := by have := hL.out; rwa [Nat.sub_self, perL_zero, List.append_nil] at this
      subst hLs
      obtain ⟨A, c, rfl, hr⟩ := hown.irow
      exact ⟨_, _, rfl, hr, hbel⟩
end Go.Proofs.Ytihidlcepdpjoaa
