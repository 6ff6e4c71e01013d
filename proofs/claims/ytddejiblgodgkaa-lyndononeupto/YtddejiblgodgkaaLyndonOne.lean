/-
The walk of quillkeep.LyndonOne: it returns true (the list is of at most 1048576 strings).
-/
import Derived.Test.YtddejiblgodgkaaLyndons
namespace Go.Proofs.Ytddejiblgodgkaa
open Go.RowKit

theorem flat_len {g : Nat → ByteArray} : ∀ n, (∀ k, k < n → (g k).size ≤ 200) → ((rowL g n).map wd).flatten.length ≤ 200 * n
  | 0, _ => by simp [rowL]
  | n + 1, h => by
    have ih := flat_len n fun k hk => h k (by omega)
    rw [rowL_succ, List.map_append, List.flatten_append, List.length_append]
    have := h n (by omega)
    simp only [List.map_cons, List.map_nil, List.flatten_cons, List.flatten_nil, List.append_nil, wd_len]
    omega
set_option maxHeartbeats 1000000 in
theorem one_walk (A : Option Addr) (n c : Nat) (g : Nat → ByteArray) (w : World) (hrow : SRow w A n g) (hc : n ≤ c) (hn : n ≤ 1048576) :
    Calls Try.prog 5 #[.slice A n c] w fun e w' => e = .returned (.bool true) ∧ Below w.heap.size w w' := by
  have HR := hid hrow
  clear hrow
  go_enter Try.func5, Try.ntmps5
  go_wp2_with fail
  with_reducible refine (lyndons_any _).mono ?_
  rintro e w1 ⟨rfl, hb1⟩
  have HR1 := hid (HR.out.keep hb1)
  clear HR
  go_wp2
  go_loopw [13] (fun x wr => ∃ k : Nat, k ≤ n ∧ x = .int .i64 (k : Int) ∧ Hid (∀ j, j < k → LynS (g j) ∧ (g j).size ≤ 200) ∧ Hid (∀ j, j + 1 < k → ¬ wd (g j) < wd (g (j + 1))) ∧ Hid (SRow wr A n g) ∧ Below w.heap.size w wr) (fun x _ => n - (intOf x).toNat)
  case atStart => exact ⟨0, by omega, rfl, hid (fun j hj => by omega), hid (fun j hj => by omega), HR1, hb1⟩
  case round =>
    obtain ⟨k, hk, rfl, HA, HF, HR2, hb2⟩ := hrel
    by_cases hkn : k < n
    · obtain ⟨bk, o, hA, hbk, hck⟩ := HR2.out k hkn
      subst hA
      have hkn' : (k : Int) < (n : Int) := by omega
      have hok : (0 : Int) ≤ (k : Int) := by omega
      by_cases hsz : (g k).size ≤ 200
      · go_wp2_with fail
        with_reducible refine (Is_ok (g k) _ hsz).mono ?_
        rintro e w5 ⟨⟨b5, hb5', rfl⟩, hd5⟩
        clear hck hbk
        have HR6 := hid (HR2.out.keep (hd5.below _))
        have hb6 := bl_then hb2 (hd5.below _)
        clear HR2 hb2 hd5
        by_cases hbt : b5 = true
        · subst hbt
          have HL := hid (hb5'.1 rfl)
          clear hb5'
          by_cases hk0 : 0 < k
          · obtain ⟨ip, hip⟩ : ∃ ip, ip = k - 1 := ⟨_, rfl⟩
            obtain ⟨bk', o', hbo, _, hci⟩ := HR6.out ip (by omega)
            obtain ⟨rfl, rfl⟩ : bk = bk' ∧ o = o' := by injection hbo with hbo; injection hbo with h1 h2; exact ⟨h1, h2⟩
            have eim : (k : Int) - 1 = (ip : Int) := by omega
            have hwp : IntKind.i64.wrap (ip : Int) = (ip : Int) := IntWalk.i64_in _ (by omega)
            have hpq : (ip : Int) < (n : Int) := by omega
            have hip0 : (0 : Int) ≤ (ip : Int) := by omega
            have hdk : decide ((0 : Int) < (k : Int)) = true := decide_eq_true (by omega)
            have HIP := hid hip
            clear hip hbo
            by_cases hls : wd (g ip) < wd (g k)
            · have hless := less_yes hls
              have hb7 := hid hb6
              clear hls hb6
              go_wp2
              go_ret
              exact ⟨rfl, hb7.out⟩
            · have hless := less_no hls
              have HLS := hid hls
              clear hls
              go_wp2
              go_roundw
              case measure => simp [intOf]; omega
              case rel =>
                refine ⟨k + 1, by omega, by go_num, hid (fun j hj => ?_), hid (fun j hj => ?_), HR6, hb6⟩
                · by_cases hjk : j < k
                  · exact HA.out j hjk
                  · obtain rfl : j = k := by omega
                    exact ⟨HL.out, hsz⟩
                · by_cases hjk : j + 1 < k
                  · exact HF.out j hjk
                  · have e1 : j = ip := by have := HIP.out; omega
                    rw [show j + 1 = k by omega, e1]
                    exact HLS.out
          · have hdk : decide ((0 : Int) < (k : Int)) = false := decide_eq_false (by omega)
            go_wp2
            go_roundw
            case measure => simp [intOf]; omega
            case rel =>
              refine ⟨k + 1, by omega, by go_num, hid (fun j hj => ?_), hid (fun j hj => by omega), HR6, hb6⟩
              obtain rfl : j = k := by omega
              exact ⟨HL.out, hsz⟩
        · obtain rfl : b5 = false := by cases b5; rfl; exact absurd rfl hbt
          have hb7 := hid hb6
          clear hb5' hbt hb6
          go_wp2
          go_ret
          exact ⟨rfl, hb7.out⟩
      · go_wp2_with fail
        with_reducible refine (Is_large (g k) _ (by omega)).mono ?_
        rintro e w5 ⟨rfl, rfl⟩
        have hb7 := hid hb2
        clear hck hbk hb2
        go_wp2
        go_ret
        exact ⟨rfl, hb7.out⟩
    · have hdl : decide ((k : Int) < (n : Int)) = false := decide_eq_false (by omega)
      obtain rfl : k = n := by omega
      have hfl := flat_len (g := g) k fun j hj => (HA.out j hj).2
      go_wp2_with fail
      with_reducible refine (join_any HR2.out (by omega) hc (by omega)).mono ?_
      rintro e w5 ⟨⟨t, rfl, ht⟩, hb3⟩
      have HG := hid (fact_of (s := t) (n := k) (g := g) (fun j hj => (HA.out j hj).1) HF.out ht.symm)
      have HR3 := hid (HR2.out.keep hb3)
      have hb4 := bl_then hb2 hb3
      clear HA HF HR2 hb2 hb3 ht hfl
      by_cases hts : t.size ≤ 200
      · go_wp2_with fail
        with_reducible refine (Split_row t _ hts).mono ?_
        rintro e w6 ⟨A6, c6, m, h, rfl, hc6, hm, hrow6, hfact6, hb6⟩
        have HE : Hid (true = decide (rowL g k = rowL h m)) := (decide_eq_true (map_wd (Lm.Fact.unique HG.out hfact6))).symm
        have HR6 := hid hrow6
        have HR7 := hid (HR3.out.keep hb6)
        have hb7 := bl_then hb4 hb6
        clear hrow6 hfact6 hb6 hb4 HR3 HG
        go_wp2_with fail
        with_reducible refine (sequal_any HR7.out HR6.out (by unfold maxLen; omega) (by unfold maxLen; omega) true HE.out).mono ?_
        rintro e w8 ⟨rfl, hd8⟩
        have hb9 := hid (bl_then hb7 (hd8.below _))
        clear hb7 hd8 HR6 HR7 HE
        go_wp2
        go_ret
        exact ⟨rfl, hb9.out⟩
      · go_wp2_with fail
        with_reducible refine (Split_large t _ (by omega)).mono ?_
        rintro e w6 ⟨rfl, rfl⟩
        have hb7 := hid hb4
        clear hb4 HR3 HG
        go_wp2
        go_ret
        exact ⟨rfl, hb7.out⟩
end Go.Proofs.Ytddejiblgodgkaa
