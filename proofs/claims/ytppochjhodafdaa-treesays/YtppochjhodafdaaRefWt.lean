/-
The contract of quillref.WeightErr.
-/
import Derived.Test.YtppochjhodafdaaBase
import Derived.Test.YtppochjhodafdaaTreeDefs
namespace Go.Proofs.Ytppochjhodafdaa
open Go.RowKit

theorem wt_clo (x : Int) (w : World) : Calls Try.prog 24 #[.int .i64 x] w fun e w' => e = .returned (.bool (decide (Hm.Off1 x))) ∧ w = w' := by
  by_cases h1 : x < 1
  · have e : decide (Hm.Off1 x) = true := decide_eq_true (.inl h1)
    rw [e]
    clear e
    go_enter Try.func24, Try.ntmps24
    go_wp2
    go_ret
    exact ⟨rfl, rfl⟩
  · have h1' : decide (x < 1) = false := decide_eq_false h1
    by_cases h2 : 10000 < x
    · have e : decide (Hm.Off1 x) = true := decide_eq_true (.inr h2)
      rw [e]
      clear e
      go_enter Try.func24, Try.ntmps24
      go_wp2
      go_ret
      exact ⟨rfl, rfl⟩
    · have h2' : decide (10000 < x) = false := decide_eq_false h2
      have e : decide (Hm.Off1 x) = false := decide_eq_false (fun h => h.elim h1 h2)
      rw [e]
      clear e
      go_enter Try.func24, Try.ntmps24
      go_wp2
      go_ret
      exact ⟨rfl, rfl⟩
theorem wt_idx (A : Option Addr) (n c : Nat) (g : Nat → Int) (w : World) (h : IRow w A n g) (hn : n ≤ 12) :
    Calls Try.prog 42 #[.slice A n c, .func (.func 24) #[] #[]] w fun e w' => (∃ i : Int, e = .returned (.int .i64 i) ∧ (0 ≤ i ↔ ∃ k, k < n ∧ Hm.Off1 (g k))) ∧ w = w' := by
  have HF := hid h
  clear h
  go_enter Try.func42, Try.ntmps42
  go_wp2
  go_loopw [8] (fun i wr => ∃ k : Nat, k ≤ n ∧ i = .int .i64 k ∧ Hid (∀ j, j < k → ¬ Hm.Off1 (g j)) ∧ wr = w) (fun i _ => n - (intOf i).toNat)
  case atStart => exact ⟨0, by omega, rfl, fun j hj => by omega, rfl⟩
  case round =>
    obtain ⟨k, hk, rfl, HK, rfl⟩ := hrel
    by_cases h : k < n
    · obtain ⟨b, o, rfl, _, hc⟩ := HF.out k h
      have hC := wt_clo (g k) wr
      by_cases hb : Hm.Off1 (g k)
      · rw [decide_eq_true hb] at hC
        have HB : Hid (∃ k, k < n ∧ Hm.Off1 (g k)) := ⟨k, h, hb⟩
        clear hb HK
        go_wp2_with fail
        with_reducible refine hC.mono ?_
        rintro e w1 ⟨rfl, rfl⟩
        clear hC
        go_wp2
        go_ret
        exact ⟨⟨_, rfl, ⟨fun _ => HB.out, fun _ => by omega⟩⟩, rfl⟩
      · rw [decide_eq_false hb] at hC
        have HK2 : Hid (∀ j, j < k + 1 → ¬ Hm.Off1 (g j)) := by
          intro j hj
          by_cases e : j = k
          · subst e; exact hb
          · exact HK.out j (by omega)
        clear hb HK
        go_wp2_with fail
        with_reducible refine hC.mono ?_
        rintro e w1 ⟨rfl, rfl⟩
        clear hC
        go_wp2
        go_roundw
        case measure => simp [intOf]; omega
        case rel => exact ⟨k + 1, by omega, by go_num, HK2, by trivial⟩
    · have HB : Hid (¬ ∃ k, k < n ∧ Hm.Off1 (g k)) := by
        rintro ⟨j, hj, hb⟩
        exact HK.out j (by omega) hb
      go_wp2
      go_ret
      exact ⟨⟨-1, rfl, ⟨fun h => absurd h (by decide), fun h => absurd h HB.out⟩⟩, rfl⟩
theorem wt_has (A : Option Addr) (n c : Nat) (g : Nat → Int) (w : World) (h : IRow w A n g) (hn : n ≤ 12) :
    Calls Try.prog 23 #[.slice A n c, .func (.func 24) #[] #[]] w fun e w' => (∃ b : Bool, e = .returned (.bool b) ∧ (b = true ↔ ∃ k, k < n ∧ Hm.Off1 (g k))) ∧ w = w' := by
  have HF := hid h
  clear h
  go_enter Try.func23, Try.ntmps23
  go_wp2_with fail
  with_reducible refine (wt_idx _ _ _ _ _ HF.out hn).mono ?_
  rintro e w1 ⟨⟨i, rfl, hi⟩, rfl⟩
  have HI := hid hi
  clear hi
  go_wp2
  go_ret
  exact ⟨⟨_, rfl, decide_eq_true_iff.trans HI.out⟩, rfl⟩
theorem WeightErr_ok {A : Option Addr} {n c : Nat} {g : Nat → Int} (w : World) (h : IRow w A n g) :
    Calls Try.prog 10 #[.slice A n c] w fun e w' => e = .returned (.int .i64 (Hm.wErr g n)) ∧ w = w' := by
  by_cases hn : 12 < n
  · have e : Hm.wErr g n = 2 := by unfold Hm.wErr; rw [if_pos hn]
    rw [e]
    have h1 : (12 : Int) < (n : Int) := by omega
    clear e h
    go_enter Try.func10, Try.ntmps10
    go_wp2
    go_ret
    exact ⟨rfl, rfl⟩
  · have h1 : decide ((12 : Int) < (n : Int)) = false := decide_eq_false (by omega)
    have hH := wt_has A n c g w h (by omega)
    have HE : Hid (Hm.wErr g n = Hm.wnE g n) := by show _ = _; unfold Hm.wErr; rw [if_neg hn]
    clear h
    go_enter Try.func10, Try.ntmps10
    go_wp2_with fail
    with_reducible refine hH.mono ?_
    rintro e w1 ⟨⟨b, rfl, hb⟩, rfl⟩
    clear hH
    cases b with
    | true =>
      have HB : Hid (Hm.wErr g n = 1) := by
        obtain ⟨k, hk, hx⟩ := hb.1 rfl
        show _ = _
        rw [HE.out]
        exact Hm.wnE_one hk hx
      clear hb HE
      go_wp2
      go_ret
      rw [HB.out]
      exact ⟨rfl, rfl⟩
    | false =>
      have HB : Hid (Hm.wErr g n = 0) := by
        show _ = _
        rw [HE.out, Hm.wnE_zero]
        intro k hk hx
        have := hb.2 ⟨k, hk, hx⟩
        cases this
      clear hb HE
      go_wp2
      go_ret
      rw [HB.out]
      exact ⟨rfl, rfl⟩
end Go.Proofs.Ytppochjhodafdaa
