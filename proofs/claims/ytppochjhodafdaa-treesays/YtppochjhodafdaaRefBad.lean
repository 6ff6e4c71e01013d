/-
The contract of slices.ContainsFunc with the test of quillref.CodesOf: is there a word that is not less, or begins the new one?
-/
import Derived.Test.YtppochjhodafdaaCRow
import Derived.Test.YtppochjhodafdaaSortW
import Derived.Test.YtppochjhodafdaaShelfK
import Derived.Laws.Cover1
namespace Go.Proofs.Ytppochjhodafdaa
open Go.RowKit

theorem badPre {s p : List UInt8} : Lib.hasPrefix s p = true ↔ p <+: s := by unfold Lib.hasPrefix; exact List.isPrefixOf_iff_prefix
theorem can_clo (N : Nat) (v x : ByteArray) (w : World) (hN : w.cell? ⟨N, 0, none⟩ = some (.string x)) :
    Calls Try.prog 29 #[.string v, .pointer (some ⟨N, 0, none⟩)] w fun e w' => (∃ b : Bool, e = .returned (.bool b) ∧ (b = true ↔ Cm.Bad (wd v) (wd x))) ∧ w = w' := by
  by_cases hl : wd v < wd x
  · have h1 := less_yes hl
    have hP : ∀ W, Calls Try.prog 30 #[.string x, .string v] W fun e w' => (∃ b : Bool, e = .returned (.bool b) ∧ (b = true ↔ Cm.Bad (wd v) (wd x))) ∧ w' = W := by
      intro W
      refine (Try.strings_HasPrefix _ _ W).mono ?_
      rintro e w3 ⟨rfl, rfl⟩
      refine ⟨⟨_, rfl, ?_⟩, rfl⟩
      rw [badPre]
      unfold Cm.Bad
      constructor
      · exact .inr
      · rintro (h | h)
        · exact absurd hl h
        · exact h
    clear hl
    go_enter Try.func29, Try.ntmps29
    go_wp2_with fail
    with_reducible refine (hP _).mono ?_
    rintro e w1 ⟨⟨b, rfl, hb⟩, rfl⟩
    have HB := hid hb
    clear hb
    go_wp2
    go_ret
    exact ⟨⟨b, rfl, HB.out⟩, rfl⟩
  · have h1 := less_no hl
    have HB : Hid (Cm.Bad (wd v) (wd x)) := .inl hl
    clear hl
    go_enter Try.func29, Try.ntmps29
    go_wp2
    go_ret
    exact ⟨⟨true, rfl, ⟨fun _ => HB.out, fun _ => rfl⟩⟩, rfl⟩
theorem can_idx (N : Nat) (x : ByteArray) (A : Option Addr) (n c : Nat) (f : Nat → List UInt8) (w : World) (hN : w.cell? ⟨N, 0, none⟩ = some (.string x)) (hf : LRow w A n f) (hn : n ≤ maxLen) :
    Calls Try.prog 45 #[.slice A n c, .func (.func 29) #[] #[.pointer (some ⟨N, 0, none⟩)]] w fun e w' => (∃ i : Int, e = .returned (.int .i64 i) ∧ (0 ≤ i ↔ ∃ k, k < n ∧ Cm.Bad (f k) (wd x))) ∧ w = w' := by
  have HF := hid hf
  have HN := hid hN
  clear hf hN
  unfold maxLen at hn
  go_enter Try.func45, Try.ntmps45
  go_wp2
  go_loopw [8] (fun i wr => ∃ k : Nat, k ≤ n ∧ i = .int .i64 k ∧ Hid (∀ j, j < k → ¬ Cm.Bad (f j) (wd x)) ∧ wr = w) (fun i _ => n - (intOf i).toNat)
  case atStart => exact ⟨0, by omega, rfl, fun j hj => by omega, rfl⟩
  case round =>
    obtain ⟨k, hk, rfl, HK, rfl⟩ := hrel
    by_cases h : k < n
    · obtain ⟨b, o, rfl, _, hc⟩ := HF.out k h
      have hw : wd (mkS (f k)) = f k := lst_mk _
      go_wp2_with fail
      with_reducible refine (can_clo N (mkS (f k)) x _ HN.out).mono ?_
      rw [hw]
      rintro e w1 ⟨⟨r, rfl, hr⟩, rfl⟩
      clear hw
      cases r with
      | true =>
        have HB : Hid (∃ k, k < n ∧ Cm.Bad (f k) (wd x)) := ⟨k, h, hr.1 rfl⟩
        clear hr
        go_wp2
        go_ret
        exact ⟨⟨_, rfl, ⟨fun _ => HB.out, fun _ => by omega⟩⟩, rfl⟩
      | false =>
        have HK2 : Hid (∀ j, j < k + 1 → ¬ Cm.Bad (f j) (wd x)) := by
          intro j hj
          by_cases e : j = k
          · subst e; intro hb; have := hr.2 hb; cases this
          · exact HK.out j (by omega)
        clear hr HK
        go_wp2
        go_roundw
        case measure => simp [intOf]; omega
        case rel => exact ⟨k + 1, by omega, by go_num, HK2, by trivial⟩
    · have HB : Hid (¬ ∃ k, k < n ∧ Cm.Bad (f k) (wd x)) := by
        rintro ⟨j, hj, hb⟩
        exact HK.out j (by omega) hb
      go_wp2
      go_ret
      exact ⟨⟨-1, rfl, ⟨fun h => absurd h (by decide), fun h => absurd h HB.out⟩⟩, rfl⟩
theorem can_has (N : Nat) (x : ByteArray) (A : Option Addr) (n c : Nat) (f : Nat → List UInt8) (w : World) (hN : w.cell? ⟨N, 0, none⟩ = some (.string x)) (hf : LRow w A n f) (hn : n ≤ maxLen) :
    Calls Try.prog 28 #[.slice A n c, .func (.func 29) #[] #[.pointer (some ⟨N, 0, none⟩)]] w fun e w' => (∃ b : Bool, e = .returned (.bool b) ∧ (b = true ↔ ∃ k, k < n ∧ Cm.Bad (f k) (wd x))) ∧ w = w' := by
  have HF := hid hf
  have HN := hid hN
  clear hf hN
  go_enter Try.func28, Try.ntmps28
  go_wp2_with fail
  with_reducible refine (can_idx _ _ _ _ _ _ _ HN.out HF.out hn).mono ?_
  rintro e w1 ⟨⟨i, rfl, hi⟩, rfl⟩
  have HI := hid hi
  clear hi
  go_wp2
  go_ret
  exact ⟨⟨_, rfl, decide_eq_true_iff.trans HI.out⟩, rfl⟩
end Go.Proofs.Ytppochjhodafdaa
