/-
The contracts of quillref.Lyndon and quillref.LeastTurn.
-/
import Derived.Test.YtiphclgafhbplaaLeast
import Derived.Test.YtiphclgafhbplaaStrLib
import Derived.Deep.RegionLaw
namespace Go.Proofs.Ytiphclgafhbplaa
open Go.RowKit

theorem lyn_turnS {s : ByteArray} (h0 : 0 < s.size) : LynS s ↔ ∀ k, 0 < k → k < s.size → wd s < wd (turnS s k) := by
  unfold LynS Lm.Lyn
  rw [wd_len, Lm.lyn_turns h0]
  constructor
  · intro h k h1 h2
    have := (turn_lt (Nat.zero_le _) (Nat.le_of_lt h2)).2 (h k h1 h2)
    rwa [turnS_zero] at this
  · intro h k h1 h2
    have := h k h1 h2
    rw [← turnS_zero s] at this
    rw [turnS_zero s] at this
    have h3 := (turn_lt (s := s) (Nat.zero_le _) (Nat.le_of_lt h2)).1 (by rw [turnS_zero]; exact this)
    exact h3
theorem leq_yes {a b : ByteArray} (h : ¬ wd b < wd a) : (!Op.bytesLess b.toList a.toList) = true ∧ (Op.bytesLess a.toList b.toList || a.toList == b.toList) = true := by
  refine ⟨by rw [less_no h]; rfl, ?_⟩
  by_cases hx : wd a < wd b
  · rw [less_yes hx]; rfl
  · rw [same_yes (wd_inj (List.le_antisymm h hx)), Bool.or_true]
theorem leq_no {a b : ByteArray} (h : wd b < wd a) : (!Op.bytesLess b.toList a.toList) = false ∧ (Op.bytesLess a.toList b.toList || a.toList == b.toList) = false := by
  refine ⟨by rw [less_yes h]; rfl, ?_⟩
  rw [less_no fun hc => Lm.irr _ (Lm.lt_tr h hc), same_no fun e => by rw [e] at h; exact Lm.irr _ h]
  rfl
set_option maxHeartbeats 400000 in
theorem refLyndon (s : ByteArray) (w : World) (hs : s.size ≤ 1000) : Calls Try.prog 19 #[.string s] w fun e w' => (∃ b, (b = true ↔ LynS s) ∧ e = .returned (.bool b)) ∧ Drew w w' := by
  go_enter Try.func19, Try.ntmps19
  go_wp2
  go_loopw [3] (fun x wr => ∃ k : Nat, 0 < k ∧ k ≤ s.size + 1 ∧ x = .int .i64 (k : Int) ∧ Hid (∀ j, 0 < j → j < k → j < s.size → wd s < wd (turnS s j)) ∧ Drew w wr) (fun x _ => s.size + 1 - (intOf x).toNat)
  case atStart => exact ⟨1, by omega, by omega, rfl, hid (fun j h1 h2 _ => by omega), Drew.refl _⟩
  case round =>
    obtain ⟨k, hk0, hk1, rfl, HA, hd⟩ := hrel
    by_cases hlt : k < s.size
    · have hk' : (k : Int) ≤ (s.size : Int) := by omega
      by_cases hc : wd s < wd (turnS s k)
      · have g1 : Op.bytesLess s.toList (s.extract k s.size ++ s.extract 0 k).toList = true := less_yes hc
        have g2 := leq_no (a := s.extract k s.size ++ s.extract 0 k) (b := s) hc
        obtain ⟨g3, g4⟩ := g2
        have HC := hid hc
        clear hc
        go_wp2
        go_quiet (fail)
        go_wp2
        go_roundw
        case measure => simp [intOf]; omega
        case rel =>
          refine ⟨k + 1, by omega, by omega, by go_num, ?_, hd.more _⟩
          intro j h1 h2 h3
          by_cases hj : j < k
          · exact HA.out j h1 hj h3
          · obtain rfl : j = k := by omega
            exact HC.out
      · have g1 : Op.bytesLess s.toList (s.extract k s.size ++ s.extract 0 k).toList = false := less_no hc
        have g2 := leq_yes (a := s.extract k s.size ++ s.extract 0 k) (b := s) hc
        obtain ⟨g3, g4⟩ := g2
        have HC := hid hc
        clear hc
        go_wp2
        go_quiet (fail)
        go_wp2
        go_ret
        exact ⟨⟨false, by simp; exact fun h => HC.out ((lyn_turnS (by omega)).1 h k hk0 hlt), rfl⟩, hd.more _⟩
    · have hdl : decide ((k : Int) < (s.size : Int)) = false := decide_eq_false (by omega)
      by_cases h0 : 0 < s.size
      · have hne := some_bytes h0
        go_wp2
        go_ret
        exact ⟨⟨true, by simp; exact (lyn_turnS h0).2 fun j h1 h2 => HA.out j h1 (by omega) h2, rfl⟩, hd⟩
      · have hne : s.toList.isEmpty = true := no_bytes (by omega)
        go_wp2
        go_ret
        exact ⟨⟨false, by simp; exact fun h => by have := h.1; rw [wd_len] at this; omega, rfl⟩, hd⟩
/-- An append of one string inside a statement whose order is drawn. -/
theorem step_app_str {ops : Array Oper} {o : Oper} {a : Act} {K : Act → World → Prop} {Q : Exit → Act → World → Prop} {E : Prop} {wr : World} {N : List ByteArray} {x : ByteArray} {v : Value} {base : Nat} (hgd : o.guard = none) (s z : Operand)
    (ho : o.op = .call { callee := .builtin .append, args := #[s, z], argTypes := #[37, 37] })
    (hs : a.eval s = v) (hown : OwnS wr base v N) (M : Nat) (hM : wr.heap.size = M) (hx : a.eval z = .slice (some ⟨M, 0, none⟩) 1 1)
    (hbase : base ≤ M) (hlen : N.length < 1000000)
    (h : ∀ v' w', OwnS w' base v' (N ++ [x]) → Below base wr w' → K (a.put o.dst v') w') :
    if Region.wanted o (yielded ops a.tmps) = true then Oper.wp Try.prog o a (wr.alloc (.cells #[.string x] 9)) K Q else E := by
  have hw : Region.wanted o (yielded ops a.tmps) = true := by simp [Region.wanted, hgd]
  rw [if_pos hw]
  subst hM
  obtain ⟨i0, hi, hz0, hz1, hz2⟩ := info_parts Try.infoStr
  refine wp_append_own _ s z 37 ho base 9 i0 (.string ⟨#[]⟩) 1 16 Try.underlying37 hi hz0 hz1 hz2 rfl (by decide) v _ _ hs (World.ownsRow.alloc hown _) ⟨wr.heap.size, 0, none⟩ 1 1 [.string x] hx rfl ?_ ?_ ?_ ?_ ?_ ?_
  · intro j u hj
    match j, hj with
    | 0, hj => simp at hj; subst hj; simp [Addr.add]
  · intro u hu; simp at hu; subst hu; rfl
  · unfold maxLen; omega
  · omega
  · simp; omega
  · intro v' w' h1 h2 _
    refine h v' w' ?_ ?_
    · unfold OwnS
      rw [List.map_append, List.length_append]
      exact h1
    · have hb : Below base wr (wr.alloc (.cells #[.string x] 9)) := (Below.refl _ _).alloc hbase _
      exact hb.grown h2 (by simp; omega) fun k hk => ((World.ownsRow.lt hown k hk).1)
theorem rowL_succ (g : Nat → ByteArray) (k : Nat) : rowL g (k + 1) = rowL g k ++ [g k] := by unfold rowL; rw [List.range_succ, List.map_append]; rfl
set_option maxHeartbeats 400000 in
theorem leastTurn_any (s : ByteArray) (i : Nat) (w : World) (hs : s.size ≤ 1000) (h0 : i < s.size) (hi : LeastAt s i) : Calls Try.prog 18 #[.string s] w fun e w' => e = .returned (.tuple #[.string (turnS s i), .int .i64 (i : Int)]) ∧ Below w.heap.size w w' := by
  have hne := some_bytes (s := s) (by omega)
  have HI := hid hi
  clear hi
  go_enter Try.func18, Try.ntmps18
  go_wp2
  go_loopw [4, 11] (fun v x wr => ∃ k : Nat, k ≤ s.size ∧ x = .int .i64 (k : Int) ∧ Hid (OwnS wr w.heap.size v (rowL (turnS s) k)) ∧ Below w.heap.size w wr) (fun _ x _ => s.size - (intOf x).toNat)
  case atStart => exact ⟨0, by omega, rfl, hid (OwnS.zero _ _), Below.refl _ _⟩
  case round =>
    obtain ⟨k, hk, rfl, HO, hbel⟩ := hrel
    by_cases hlt : k < s.size
    · have hk' : (k : Int) ≤ (s.size : Int) := by omega
      have hsz := hbel.size
      have hll := rowL_len (turnS s) k
      go_wp2
      have hbig : ¬ 9223372036854775807 < s.size := by omega
      have HO1 := hid (show OwnS wr.drew w.heap.size _ _ from HO.out)
      go_region_law (refine step_app_str (wr := wr.drew) rfl _ _ rfl (by simp [Act.eval]) HO1.out wr.heap.size rfl (by simp [Act.eval]) hsz (by omega) ?_; intro v' w2 hown2 hb2; have HO2 := hid hown2; have hbel2 := (bl_drewN hbel 1).trans hb2; clear hown2 hb2)
      go_wp2
      go_roundw
      case measure => simp [intOf]; omega
      case rel => exact ⟨k + 1, by omega, by go_num, by rw [rowL_succ]; exact HO2, hbel2⟩
    · have hdl : decide ((k : Int) < (s.size : Int)) = false := decide_eq_false (by omega)
      obtain rfl : k = s.size := by omega
      obtain ⟨A, c, hv, hc, hrow⟩ := HO.out.row
      subst hv
      rw [rowL_len] at hrow ⊢
      have HR := hid (hrow.congr fun j hj => rowL_get hj)
      clear hrow HO
      have HM : Hid (∀ j, j < s.size → ¬ wd (turnS s j) < wd (turnS s i)) := fun j hj hl => HI.out.least j hj ((turn_lt (Nat.le_of_lt hj) (Nat.le_of_lt h0)).1 hl)
      go_wp2_with fail
      with_reducible refine (min_any (j0 := i) HR.out (by unfold maxLen; omega) h0 HM.out).mono ?_
      rintro e w1 ⟨rfl, rfl⟩
      go_wp2_with fail
      with_reducible refine (sindex_any (j0 := i) HR.out (by unfold maxLen; omega) h0 (fun j hj e => ?_)).mono ?_
      · have := (turn_lt (s := s) (Nat.le_of_lt h0) (Nat.le_of_lt (Nat.lt_trans hj h0))).2 (HI.out.first j hj)
        rw [e] at this
        exact Lm.irr _ this
      rintro e w1 ⟨rfl, rfl⟩
      go_wp2
      go_ret2
      exact ⟨rfl, hbel⟩
theorem leastTurn_ok (s : ByteArray) (i : Nat) (w : World) (hs : s.size ≤ 200) (h0 : i < s.size) (hi : LeastAt s i) : Calls Try.prog 18 #[.string s] w fun e w' => e = .returned (.tuple #[.string (turnS s i), .int .i64 (i : Int)]) ∧ Below w.heap.size w w' := leastTurn_any s i w (by omega) h0 hi
end Go.Proofs.Ytiphclgafhbplaa
