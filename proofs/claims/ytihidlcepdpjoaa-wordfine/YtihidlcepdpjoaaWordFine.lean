/-
The walk of quillkeep.WordFine: it returns true for every string.
-/
import Derived.Test.YtihidlcepdpjoaaWords
namespace Go.Proofs.Ytihidlcepdpjoaa
open Go.RowKit

theorem per_get {s : ByteArray} {k : Nat} (h : k < (perL s s.size).length) : ∃ d : Nat, (perL s s.size).getD k 0 = (d : Int) ∧ 1 ≤ d ∧ d ≤ s.size ∧ Wm.Per (byt s) s.size d := by
  unfold perL at h ⊢
  rw [List.length_map] at h
  have hm : (Wm.pl (byt s) s.size s.size)[k] ∈ Wm.pl (byt s) s.size s.size := List.getElem_mem _
  refine ⟨(Wm.pl (byt s) s.size s.size)[k], ?_, Wm.mem_periods.1 hm⟩
  rw [List.getD_eq_getElem?_getD, List.getElem?_map, List.getElem?_eq_getElem h]
  rfl
theorem per_find {s : ByteArray} {d : Nat} (h1 : 1 ≤ d) (h2 : d ≤ s.size) (hp : Wm.Per (byt s) s.size d) : ∃ k, k < (perL s s.size).length ∧ (perL s s.size).getD k 0 = (d : Int) := by
  obtain ⟨k, hk, e⟩ := List.getElem_of_mem (Wm.mem_periods.2 ⟨h1, h2, hp⟩)
  refine ⟨k, by unfold perL; rw [List.length_map]; exact hk, ?_⟩
  unfold perL
  rw [List.getD_eq_getElem?_getD, List.getElem?_map, List.getElem?_eq_getElem hk, e]
  rfl

theorem wordFine_large (s : ByteArray) (w : World) (hs : 200 < s.size) :
    Calls Try.prog 5 #[.string s] w fun e w' => e = .returned (.bool true) ∧ Below w.heap.size w w' := by
  go_enter Try.func5, Try.ntmps5
  go_wp2_with fail
  with_reducible refine (words_any _).mono ?_
  rintro e w1 ⟨rfl, hb1⟩
  go_wp2_with fail
  with_reducible refine (Periods_large s _ hs).mono ?_
  rintro e w2 ⟨rfl, rfl⟩
  go_wp2
  go_ret
  exact ⟨rfl, hb1⟩

set_option maxHeartbeats 1000000 in
theorem wordFine_ok (s : ByteArray) (w : World) (hs : s.size ≤ 200) :
    Calls Try.prog 5 #[.string s] w fun e w' => e = .returned (.bool true) ∧ Below w.heap.size w w' := by
  have hlen := perL_len s s.size
  obtain ⟨n, hn⟩ : ∃ n, n = (perL s s.size).length := ⟨_, rfl⟩
  obtain ⟨g, hg⟩ : ∃ g, g = fun k => (perL s s.size).getD k 0 := ⟨_, rfl⟩
  have hget : ∀ k, k < n → ∃ d : Nat, g k = (d : Int) ∧ 1 ≤ d ∧ d ≤ s.size ∧ Wm.Per (byt s) s.size d := by
    intro k hk; rw [hg]; exact per_get (by omega)
  have hfind : ∀ d : Nat, 1 ≤ d → d ≤ s.size → Wm.Per (byt s) s.size d → ∃ k, k < n ∧ g k = (d : Int) := by
    intro d h1 h2 h3; rw [hg, hn]; exact per_find h1 h2 h3
  rw [← hn] at hlen
  have HN := hid hn
  have HG := hid hg
  have HGET := hid hget
  have HFIND := hid hfind
  clear hn hg hget hfind
  go_enter Try.func5, Try.ntmps5
  go_wp2_with fail
  with_reducible refine (words_any _).mono ?_
  rintro e w1 ⟨rfl, hb1⟩
  go_wp2_with fail
  with_reducible refine (Periods_ok s _ hs).mono ?_
  rw [← HN.out, ← HG.out]
  rintro e w2 ⟨A, c, rfl, hr2, hb2⟩
  have R := hid hr2
  have hb := hid (bl_then hb1 hb2)
  clear hr2 hb1 hb2
  have hnm : n ≤ maxLen := by unfold maxLen; omega
  go_wp2
  go_loopw [25] (fun x wr => ∃ i : Nat, i ≤ n ∧ x = .int .i64 i ∧ ∃ d, wr = w2.drewN d) (fun x _ => n - (intOf x).toNat)
  case atStart => exact ⟨0, Nat.zero_le _, rfl, 0, rfl⟩
  case round =>
    obtain ⟨i, hi, rfl, d1, rfl⟩ := hrel
    by_cases hlt : i < n
    · obtain ⟨b, o, rfl, _, hci⟩ := R.out.at_ hlt
      obtain ⟨p, hp, hp1, hp2, hpp⟩ := HGET.out i hlt
      rw [hp] at hci
      have HPP := hid hpp
      clear hp hpp
      go_wp2
      go_loopw [31] (fun x wr => ∃ j : Nat, j ≤ n ∧ x = .int .i64 j ∧ ∃ d, wr = w2.drewN d) (fun x _ => n - (intOf x).toNat)
      case atStart => exact ⟨0, Nat.zero_le _, rfl, _, rfl⟩
      case round =>
        obtain ⟨j, hj, rfl, d2, rfl⟩ := hrel
        by_cases hjlt : j < n
        · obtain ⟨b', o', hbo, _, hcj⟩ := R.out.at_ hjlt
          obtain ⟨rfl, rfl⟩ : b = b' ∧ o = o' := by injection hbo with hbo; injection hbo with h1 h2; exact ⟨h1, h2⟩
          obtain ⟨q, hq, hq1, hq2, hqq⟩ := HGET.out j hjlt
          rw [hq] at hcj
          have HQQ := hid hqq
          clear hq hqq hbo
          go_wp2
          go_loopw [9, 10] (fun x y wr => ∃ a r : Nat, a ≤ 200 ∧ r ≤ 200 ∧ x = .int .i64 a ∧ y = .int .i64 r ∧ Hid (Nat.gcd a r = Nat.gcd p q) ∧ ∃ d, wr = w2.drewN d) (fun _ y _ => (intOf y).toNat)
          case atStart => exact ⟨p, q, by omega, by omega, rfl, rfl, rfl, _, rfl⟩
          case round =>
            obtain ⟨a, r, ha, hr, rfl, rfl, hgcd, d3, rfl⟩ := hrel
            by_cases hr0 : 0 < r
            · have hrz : ¬ r = 0 := by omega
              have hrz' : ¬ (r : Int) = 0 := by omega
              have hm : Nat.gcd r (a % r) = Nat.gcd p q := by rw [← hgcd.out, Nat.gcd_comm a r, Nat.gcd_rec r a, Nat.gcd_comm]
              have hml := Nat.mod_lt a hr0
              have HM := hid hm
              clear hm
              go_wp2
              go_quiet (fail)
              go_wp2
              go_roundw
              case rel => exact ⟨r, a % r, by omega, by omega, rfl, by rw [Int.natCast_emod], HM.out, _, World.drewN_drewN _ _ _⟩
              case measure =>
                rw [← Int.natCast_emod]
                simp [intOf]
                omega
            · have hag : a = Nat.gcd p q := by
                have h0 : r = 0 := by omega
                have := hgcd.out
                rwa [h0, Nat.gcd_zero_right] at this
              have hap : a ≤ p := by rw [hag]; exact Nat.gcd_le_left _ (by omega)
              have ha1 : 1 ≤ a := by rw [hag]; exact Nat.gcd_pos_of_pos_left _ (by omega)
              by_cases hle : p + q ≤ s.size + a
              · have hfi := HFIND.out a ha1 (by omega) (by rw [hag]; exact Wm.fine _ p q s.size (Nat.le_refl _) (by omega) (by omega) HPP.out HQQ.out (by rw [← hag]; exact hle))
                have HFI := hid hfi
                clear hag hfi
                go_wp2_with fail
                with_reducible refine (contains_yes (R.out.drewN _) hnm HFI.out).mono ?_
                rintro e w3 ⟨rfl, rfl⟩
                go_wp2
                go_roundw
                case rel => exact ⟨j + 1, by omega, by go_num, _, rfl⟩
                case measure => simp [intOf]; omega
              · clear hag
                go_wp2
                go_roundw
                case rel => exact ⟨j + 1, by omega, by go_num, _, rfl⟩
                case measure => simp [intOf]; omega
        · go_wp2
          go_roundw
          case rel => exact ⟨i + 1, by omega, by go_num, _, rfl⟩
          case measure => simp [intOf]; omega
    · go_wp2
      go_ret
      exact ⟨rfl, bl_drewN hb.out _⟩

theorem wordFine_walk (s : ByteArray) (_ : s.size ≤ maxLen) (w : World) :
    Calls Try.prog 5 #[.string s] w fun e w' => e = .returned (.bool true) ∧ Below w.heap.size w w' := by
  by_cases hs : s.size ≤ 200
  · exact wordFine_ok s w hs
  · exact wordFine_large s w (by omega)
end Go.Proofs.Ytihidlcepdpjoaa
