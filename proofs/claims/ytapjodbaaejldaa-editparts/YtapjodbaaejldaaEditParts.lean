
/-
quillkeep.EditParts: whatever a text, edits and a number: it answers true.
-/
import Derived.Test.YtapjodbaaejldaaEdits
import Derived.Test.YtapjodbaaejldaaPartMath
namespace Go.Proofs.Ytapjodbaaejldaa
open Go.RowKit

theorem scr_natE {s : ByteArray} {h : Nat → Es.Ev} {n : Nat} {G : List Es.Sg} {q : List UInt8} (hs : Es.Scr (lst s) (el h n) G q) {k : Nat} (hk : k < n) : ∃ a d : Nat, (h k).a = (a : Int) ∧ (h k).d = (d : Int) ∧ a + d ≤ 200 ∧ (h k).s.size ≤ 40 := by
  have := Es.ch_at k hs.ch (by rw [el_len]; exact hk)
  rw [el_at hk, lst_len] at this
  obtain ⟨h1, _, h3, h4, h5⟩ := this
  have h6 := hs.from_
  rw [lst_len] at h6
  obtain ⟨a, ha⟩ := Int.eq_ofNat_of_zero_le h1
  obtain ⟨d, hd⟩ := Int.eq_ofNat_of_zero_le h3
  exact ⟨a, d, ha, hd, by omega, h5⟩
/-- The edits from the k-th on, moved by m. -/
def mvG (g : Nat → Es.Ev) (k : Nat) (m : Int) (i : Nat) : Es.Ev := Es.mvE m (g (k + i))
theorem mv_drop (g : Nat → Es.Ev) {k n : Nat} (m : Int) (_ : k ≤ n) : ((el g n).drop k).map (Es.mvE m) = el (mvG g k m) (n - k) := by
  refine List.ext_getElem (by rw [List.length_map, List.length_drop, el_len, el_len]) fun i h1 h2 => ?_
  rw [el_len] at h2
  rw [List.getElem_map, List.getElem_drop]
  simp [el, mvG]
set_option maxHeartbeats 4000000 in
theorem editParts_walk (s : ByteArray) (A : Option Addr) (n c : Nat) (g : Nat → Es.Ev) (k0 : Int) (w : World) (sa : s.size ≤ 140737488351232) (h : EvRow w A n g) (hw : ∀ k, k < n → EvWf (g k)) (hnc : n ≤ c) (hc : c ≤ maxLen) :
    Calls Try.prog 7 #[.string s, .slice A n c, .int .i64 k0] w fun e w' => e = .returned (.bool true) ∧ Below w.heap.size w w' := by
  have hnm : n ≤ maxLen := Nat.le_trans hnc hc
  have hsm : s.size ≤ maxLen := by unfold maxLen; omega
  have H := hid h
  have HW := hid hw
  have HNM := hid hnm
  have HSM := hid hsm
  have HNC := hid hnc
  clear h hw hnm hsm hnc hc
  go_enter Try.func7, Try.ntmps7
  go_wp2_with fail
  with_reducible refine (edits_ok _).mono ?_
  rintro e w1 ⟨rfl, hb1⟩
  have HB := hid hb1
  clear hb1
  go_wp2_with fail
  with_reducible refine (Apply_any s _ (H.out.keep HB.out) HW.out HNM.out HSM.out).mono ?_
  rintro e w2 ⟨t, x, rfl, ha, hb2⟩
  have HB := hid (bl_then HB.out hb2)
  have HA := hid ha
  clear hb2 ha
  by_cases hx : x = 0
  · subst hx
    obtain ⟨G, q, hs, ht⟩ := HA.out.val rfl
    have hlen := hs.len
    rw [el_len] at hlen
    have hn20 : n ≤ 20 := by rw [hlen]; exact hs.few
    have hs200 : s.size ≤ 200 := by have := hs.from_; rwa [lst_len] at this
    have hwi : ∀ W : World, Calls Try.prog 31 #[.int .i64 k0, .int .i64 ((n : Int) + 1)] W fun e w' => e = .returned (.int .i64 ((k0 % ((n + 1 : Nat) : Int)).toNat : Int)) ∧ W = w' := fun W => by
      have := within_any k0 (n + 1) W (by omega) (by omega)
      rw [show ((n + 1 : Nat) : Int) = (n : Int) + 1 by omega] at this ⊢
      exact this
    obtain ⟨k, hk⟩ : ∃ k, k = (k0 % ((n + 1 : Nat) : Int)).toNat := ⟨_, rfl⟩
    rw [← hk] at hwi
    have hkn : k ≤ n := by
      have := Int.emod_lt_of_pos k0 (show (0 : Int) < ((n + 1 : Nat) : Int) by omega)
      omega
    have HWI := hid hwi
    have HS := hid hs
    have HT := hid ht
    have HLEN := hid hlen
    have hkn' : (k : Int) ≤ (n : Int) := by omega
    have hkc' : (k : Int) ≤ (c : Int) := by have := HNC.out; omega
    have hk0 : (0 : Int) ≤ (k : Int) := by omega
    clear hk hwi hs ht hlen HA
    go_wp2_with fail
    with_reducible refine (HWI.out _).mono ?_
    rintro e w3 ⟨rfl, rfl⟩
    have HKR := hid (((H.out.keep HB.out)).less hkn)
    have HKW : Hid (∀ j, j < k → EvWf (g j)) := fun j hj => HW.out j (by omega)
    have hk20 : k ≤ maxLen := Nat.le_trans hkn HNM.out
    have HK20 := hid hk20
    clear hk20
    go_wp2_with fail
    with_reducible refine (Apply_any s _ HKR.out HKW.out HK20.out HSM.out).mono ?_
    rintro e w4 ⟨u, y, rfl, ha, hb2⟩
    have HB := hid (bl_then HB.out hb2)
    have HAU := hid ha
    clear hb2 ha HKR
    obtain ⟨m, hm⟩ : ∃ m : Int, m = (u.size : Int) - (s.size : Int) := ⟨_, rfl⟩
    have hu200 : u.size ≤ 200 := by
      by_cases hy : y = 0
      · obtain ⟨G1, q1, hs1, hu⟩ := HAU.out.val hy
        rw [hu, mk_size]; exact hs1.to_
      · rw [HAU.out.none_ hy]; decide
    have hmw : IntKind.i64.wrap m = m := IntWalk.i64_in _ (by omega)
    have HM := hid hm
    have hmb : -200 ≤ m ∧ m ≤ 200 := by omega
    have hm' : (u.size : Int) - (s.size : Int) = m := hm.symm
    clear hm
    have HP : Hid ((y = 11) ∨ (y = 0 ∧ ∃ G2 q2, Es.Scr (lst u) (el (mvG g k m) (n - k)) G2 q2 ∧ mkS (Es.dst G2 q2) = t)) := by
      show _ ∨ _
      rcases HS.out.parts (k := k) (by have := HLEN.out; omega) with hp | ⟨u', ⟨G1, q1, hs1, hu1⟩, G2, q2, hs2, hd2⟩
      · left
        rw [HAU.out.err, ← hp, el_take hkn, lst_len]
      · right
        rw [el_take hkn] at hs1
        obtain ⟨hy, hu⟩ := HAU.out.ok hs1
        have hlu : lst u = u' := by rw [hu, lst_mk, hu1]
        refine ⟨hy, G2, q2, ?_, by rw [HT.out, hd2]⟩
        rw [← hlu, lst_len, lst_len, ← HM.out, mv_drop g m hkn] at hs2
        exact hs2
    have HRW : Hid (∀ i, i < n - k → EvWf (mvG g k m i)) := fun i hi => by
      obtain ⟨a, d, e1, e2, e3, e4⟩ := scr_natE HS.out (show k + i < n by omega)
      refine wf_lit _ ⟨?_, ?_, ?_, ?_, ?_⟩
      · show -1000 ≤ (g (k + i)).a + m; omega
      · show (g (k + i)).a + m ≤ 1000; omega
      · show -1000 ≤ (g (k + i)).d; omega
      · show (g (k + i)).d ≤ 1000; omega
      · show (g (k + i)).s.size ≤ 1000; omega
    have husm : u.size ≤ maxLen := Nat.le_trans hu200 (by decide)
    have HUSM := hid husm
    clear husm HAU
    by_cases hkn2 : k < n
    · obtain ⟨b, o, rfl, hbl, _⟩ := H.out k hkn2
      have hkc : k < c := by have := HNC.out; omega
      have hck : ¬ c = k := by omega
      have hck2 : ¬ c ≤ k := by omega
      have hckb : c - k ≠ 0 := by omega
      have HROW := hid (EvRow.from_ (i := k) (H.out.keep HB.out))
      obtain ⟨r, hrE⟩ : ∃ r, r = n - k := ⟨_, rfl⟩
      have HRN := hid hrE
      have hr0 : r ≤ 20 := by omega
      rw [← hrE] at HROW HP HRW
      clear hrE hbl hkc
      go_wp2
      rw [show (n : Nat) - k = r from HRN.out.symm] 
      go_loopw [12, 51] (fun v x wr => ∃ j : Nat, ∃ vv, vv = v ∧ j ≤ r ∧ x = .int .i64 (j : Int) ∧ Hid (OwnE wr w4.heap.size vv (el (mvG g k m) j)) ∧ Hid (Below w4.heap.size w4 wr)) (fun _ x _ => r - (intOf x).toNat)
      case atStart => exact ⟨0, _, rfl, by omega, rfl, OwnE.zero _ _, Below.refl _ _⟩
      case round =>
        obtain ⟨j, vv, rfl, hj, rfl, HV, HB5⟩ := hrel
        by_cases hjr : j < r
        · obtain ⟨b', o', hA, hlt, c0, c1, c2⟩ := (HROW.out.keep HB5.out) j hjr
          injection hA with hA
          injection hA with hA1 hA2
          subst hA1 hA2
          have hjr' : (j : Int) < (r : Int) := by omega
          obtain ⟨a, d, e1, e2, e3, e4⟩ := scr_natE HS.out (show k + j < n by have := HRN.out; omega)
          obtain ⟨xs, hxs⟩ : ∃ xs, xs = (g (k + j)).s := ⟨_, rfl⟩
          try simp only at c0 c1 c2
          rw [e1] at c0
          rw [e2] at c1
          rw [← hxs] at c2
          obtain ⟨z, hz⟩ : ∃ z : Int, z = (a : Int) + m := ⟨_, rfl⟩
          have hz' : (a : Int) + m = z := hz.symm
          have hzw : IntKind.i64.wrap z = z := IntWalk.i64_in _ (by omega)
          have HNX : Hid (el (mvG g k m) (j + 1) = el (mvG g k m) j ++ [⟨z, (d : Int), xs⟩]) := by
            show _ = _
            rw [el_succ]
            congr 2
            exact Es.Ev.eq (by show (g (k + j)).a + m = z; rw [e1, hz]) e2 hxs.symm
          obtain ⟨hca0, hca1, hca2⟩ := ev_new wr ⟨(a : Int), (d : Int), xs⟩ 36
          try simp only at hca0 hca1 hca2
          have hgs : w4.heap.size ≤ wr.heap.size := HB5.out.size
          have HB6 := hid (HB5.out.alloc HB5.out.size (.cells #[.int .i64 z, .int .i64 (d : Int), .string xs] 36))
          have HV6 : Hid (OwnE (wr.alloc (.cells #[.int .i64 z, .int .i64 (d : Int), .string xs] 36)) w4.heap.size vv (el (mvG g k m) j)) := HV.out.alloc _
          have hsz6 : w4.heap.size ≤ (wr.alloc (.cells #[.int .i64 z, .int .i64 (d : Int), .string xs] 36)).heap.size := HB6.out.size
          have hN6 : (wr.alloc (.cells #[.int .i64 z, .int .i64 (d : Int), .string xs] 36)).heap.size = wr.heap.size + 1 := by simp
          have hsz7 : w4.heap.size ≤ wr.heap.size + 1 := by omega
          have hlj := el_len (mvG g k m) j
          have HLJ := hid hlj
          clear HV HB5 e1 e2 hxs hz hlj
          go_wp2_with (at_builtin; with_reducible refine app_ev (x := ⟨z, (d : Int), xs⟩) rfl _ _ rfl rfl HV6.out (wr.heap.size + 1) hN6 rfl hsz7 j HLJ.out (by omega) ?_)
          intro g' cap w7 hown hgr
          rw [← HNX.out] at hown
          have HV7 := hid hown
          have HB7 : Hid (Below w4.heap.size w4 w7) := hid (HB6.out.grown hgr hsz6 fun k hk => (HV6.out.lt_ k hk).1)
          clear hown hgr HV6 HB6 hsz6 hsz7 hN6
          go_wp2
          go_roundw
          case rel => exact ⟨j + 1, _, rfl, by omega, by go_num, HV7, HB7⟩
          case measure => simp [intOf]; omega
        · obtain rfl : j = r := by omega
          have hdj : decide ((j : Int) < (j : Int)) = false := decide_eq_false (by omega)
          obtain ⟨A2, c2, hA2, _, hr2⟩ := HV.out.row
          rw [el_len] at hA2 hr2
          subst hA2
          have HR2 : Hid (EvRow wr A2 j (mvG g k m)) := hr2.congr fun i hi => el_at hi
          have hjm : j ≤ maxLen := Nat.le_trans hr0 (by decide)
          have HJM := hid hjm
          clear hr2 hjm HROW
          go_wp2_with fail
          with_reducible refine (Apply_any u _ HR2.out HRW.out HJM.out HUSM.out).mono ?_
          rintro e w8 ⟨v, z, rfl, ha, hb8⟩
          have HB9 := hid (bl_then (bl_then HB.out HB5.out) hb8)
          rcases HP.out with rfl | ⟨rfl, G2, q2, hs2, ht2⟩
          · clear ha hb8
            go_wp2
            go_ret
            exact ⟨rfl, HB9.out⟩
          · obtain ⟨rfl, hv⟩ := ha.ok hs2
            rw [ht2] at hv
            subst hv
            have hvv : (v.toList == v.toList) = true := by simp
            clear ha hb8 hs2 ht2 HS HT HP
            go_wp2
            go_ret
            exact ⟨rfl, HB9.out⟩
    · obtain rfl : k = n := by omega
      by_cases hck : c = k
      · have hck2 : c - k = 0 := by omega
        go_wp2
        go_loopw [12, 51] (fun v x wr => v = .slice none 0 0 ∧ x = .int .i64 0 ∧ wr = w4) (fun _ _ _ => 0)
        case atStart => exact ⟨rfl, rfl, rfl⟩
        case round =>
          obtain ⟨rfl, rfl, rfl⟩ := hrel
          rw [Nat.sub_self] at HP HRW
          have HR2 : Hid (EvRow wr none 0 (mvG g k m)) := fun i hi => absurd hi (Nat.not_lt_zero _)
          go_wp2_with fail
          with_reducible refine (Apply_any u _ HR2.out HRW.out (Nat.zero_le _) HUSM.out).mono ?_
          rintro e w8 ⟨v, z, rfl, ha, hb8⟩
          have HB9 := hid (bl_then HB.out hb8)
          rcases HP.out with rfl | ⟨rfl, G2, q2, hs2, ht2⟩
          · clear ha hb8
            go_wp2
            go_ret
            exact ⟨rfl, HB9.out⟩
          · obtain ⟨rfl, hv⟩ := ha.ok hs2
            rw [ht2] at hv
            subst hv
            have hvv : (v.toList == v.toList) = true := by simp
            clear ha hb8 hs2 ht2 HS HT HP
            go_wp2
            go_ret
            exact ⟨rfl, HB9.out⟩
      · have hck2 : ¬ c - k = 0 := by have := HNC.out; omega
        have hck3 : ¬ c ≤ k := by have := HNC.out; omega
        go_wp2
        go_loopw [12, 51] (fun v x wr => v = .slice none 0 0 ∧ x = .int .i64 0 ∧ wr = w4) (fun _ _ _ => 0)
        case atStart => exact ⟨rfl, rfl, rfl⟩
        case round =>
          obtain ⟨rfl, rfl, rfl⟩ := hrel
          rw [Nat.sub_self] at HP HRW
          have HR2 : Hid (EvRow wr none 0 (mvG g k m)) := fun i hi => absurd hi (Nat.not_lt_zero _)
          go_wp2_with fail
          with_reducible refine (Apply_any u _ HR2.out HRW.out (Nat.zero_le _) HUSM.out).mono ?_
          rintro e w8 ⟨v, z, rfl, ha, hb8⟩
          have HB9 := hid (bl_then HB.out hb8)
          rcases HP.out with rfl | ⟨rfl, G2, q2, hs2, ht2⟩
          · clear ha hb8
            go_wp2
            go_ret
            exact ⟨rfl, HB9.out⟩
          · obtain ⟨rfl, hv⟩ := ha.ok hs2
            rw [ht2] at hv
            subst hv
            have hvv : (v.toList == v.toList) = true := by simp
            clear ha hb8 hs2 ht2 HS HT HP
            go_wp2
            go_ret
            exact ⟨rfl, HB9.out⟩
  · have ht := HA.out.none_ hx
    have hte : t.toList.isEmpty = true := no_bytes (by rw [ht]; rfl)
    have hxx : (x != 0) = true := bne_iff_ne.2 hx
    clear ht hx HA
    go_wp2
    go_ret
    exact ⟨rfl, HB.out⟩
end Go.Proofs.Ytapjodbaaejldaa
