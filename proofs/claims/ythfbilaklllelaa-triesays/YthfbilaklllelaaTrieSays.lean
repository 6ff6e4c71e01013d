/-
The walk of quilllaw.TrieSays: it returns true for all strings and lists of patterns.
-/
import Derived.Test.YthfbilaklllelaaTFronts
import Derived.Test.YthfbilaklllelaaRefHits
import Derived.Test.YthfbilaklllelaaSortS
import Derived.Test.YthfbilaklllelaaLong
import Derived.Laws.Cover1
namespace Go.Proofs.Ythfbilaklllelaa
open Go.RowKit

theorem says_at {g : Nat → ByteArray} {n : Nat} (hg : Good g n) {f : (List UInt8)} {Q : List (List UInt8)} (hQ : FrontQ g n f Q) {i : Nat} (hi : i < Q.length) : ∃ k, k < n ∧ idxW g n (Q.getD i []) = (k : Int) ∧ encStr (Q.getD i []) = .string (g k) := by
  have hm : Q.getD i [] ∈ Q := by rw [getD_lt hi]; exact List.getElem_mem hi
  obtain ⟨k, hk, e, _⟩ := (hQ.mem _).1 hm
  exact ⟨k, hk, by rw [e]; exact hg.idx hk, by rw [e]; exact enc_wd _⟩

set_option maxHeartbeats 2000000 in
set_option maxRecDepth 100000 in
theorem says_large (s : ByteArray) (A : Option Addr) (n c : Nat) (g : Nat → ByteArray) (head : ByteArray) (w : World) (hs : 200 < s.size) (hrow : SRow w A n g) (hc : n ≤ c) (hx : patsErr g n = 0) :
    Calls Try.prog 3 #[.string s, .slice A n c, .string head] w fun e w' => e = .returned (.bool true) ∧ Below w.heap.size w w' := by
  have hn := (good_of hx).few
  have HG := hid (good_of hx)
  have HR := hid hrow
  clear hrow
  go_enter Try.func3, Try.ntmps3
  go_wp2_with fail
  with_reducible refine (TFind_large _ _ _ _ s hs).mono ?_
  rintro e w1 ⟨rfl, rfl⟩
  have HR1 := HR
  have HB1 := hid (Below.refl w.heap.size w)
  go_wp2_with fail
  with_reducible refine (Fronts_ok _ _ _ _ g head HR1.out hc hx).mono ?_
  rintro e w2 ⟨Q, A2, c2, hQ, rfl, hrow2, hb2⟩
  have HQ := hid hQ
  have HR2 := hid (HR1.out.keep hb2)
  have HI2 := hid hrow2
  have HB2 := hid (bl_then HB1.out hb2)
  clear hrow2 hb2 hQ
  go_wp2_with fail
  with_reducible refine (patsErr_in _ _ _ _ g HR2.out hc).mono ?_
  rw [hx]
  rintro e w3 ⟨rfl, rfl⟩
  go_wp2_with fail
  with_reducible refine (tcheck_in _ _ _ _ g HR2.out hc).mono ?_
  rw [hx]
  rintro e w3 ⟨rfl, rfl⟩
  obtain ⟨q, hq⟩ : ∃ q, q = Q.length := ⟨_, rfl⟩
  obtain ⟨f2, hf2⟩ : ∃ f2, f2 = fun k => idxW g n (Q.getD k []) := ⟨_, rfl⟩
  have hq10 : q ≤ 10 := by rw [hq]; exact Nat.le_trans HQ.out.len hn
  have FA : Hid (∀ i, i < q → ∃ k, k < n ∧ f2 i = (k : Int) ∧ encStr (Q.getD i []) = .string (g k)) := by
    rw [hq, hf2]
    exact fun i hi => says_at HG.out HQ.out hi
  have hI := HI2.out
  rw [← hq, ← hf2] at hI
  have HI := hid hI
  have HQL := hid hq
  rw [← hq]
  clear hI HI2 hq hf2
  go_wp2
  go_loopw [13, 79] (fun v i wr => ∃ j : Nat, j ≤ n ∧ i = .int .i64 j ∧ Hid (OwnW wr w2.heap.size v (namesL g (wd head) j)) ∧ Below w2.heap.size w2 wr) (fun _ i _ => n - (intOf i).toNat)
  case atStart => exact ⟨0, by omega, rfl, hid (OwnW.zero _ _), Below.refl _ _⟩
  case round =>
    obtain ⟨j, hj, rfl, HO, hbel⟩ := hrel
    by_cases hjn : j < n
    · obtain ⟨b, o, rfl, hlt, hc0⟩ := HR2.out j hjn
      have hce := (hbel.cell (p := ⟨b, o + j, none⟩) hlt).trans hc0
      have hsz := hbel.size
      have hln := namesL_len g (wd head) j
      clear hc0
      go_wp2_with fail
      with_reducible refine (Try.strings_HasPrefix _ _ _).mono ?_
      rintro e w5 ⟨rfl, rfl⟩
      have hiff : Lib.hasPrefix (g j).data.toList head.data.toList = true ↔ wd head <+: wd (g j) := by
        unfold Lib.hasPrefix
        exact List.isPrefixOf_iff_prefix
      by_cases hp : wd head <+: wd (g j)
      · rw [hiff.2 hp]
        have HP := hid hp
        clear hp hiff
        go_wp2_with (at_builtin; with_reducible refine app_wd rfl _ _ rfl rfl HO.out _ rfl rfl hsz (by omega) ?_)
        intro v' w6 hown hb6
        have G1 := hid hown
        have G2 := hid (hbel.trans hb6)
        clear hown hb6
        go_wp2
        go_roundw
        case measure => simp [intOf]; omega
        case rel => exact ⟨j + 1, by omega, by go_num, by rw [namesL_yes HP.out]; exact G1, G2.out⟩
      · have hpf : Lib.hasPrefix (g j).data.toList head.data.toList = false := by
          rw [Bool.eq_false_iff]
          exact fun h => hp (hiff.1 h)
        rw [hpf]
        have HP := hid hp
        clear hp hiff hpf
        go_wp2
        go_roundw
        case measure => simp [intOf]; omega
        case rel => exact ⟨j + 1, by omega, by go_num, by rw [namesL_no HP.out]; exact HO, hbel⟩
    · obtain rfl : j = n := by omega
      have hln := namesL_len g (wd head) j
      go_wp2_with fail
      with_reducible refine (sort_own_s _ _ _ _ HO.out (by omega) hbel.size).mono ?_
      rintro e w3 ⟨rfl, ho, hb3⟩
      rw [(HG.out.names (wd head)).unique HQ.out] at ho
      obtain ⟨A3, c3, rfl, hrow3⟩ := ho.row
      rw [← HQL.out] at hrow3 ⊢
      have HR3 := hid hrow3
      have HB23 := hid (hbel.trans hb3)
      have HI3 := hid (HI.out.keep HB23.out)
      have HP3 := hid (HR2.out.keep HB23.out)
      have HB3 := hid (bl_then HB2.out HB23.out)
      have hqq : ((q : Int) != (q : Int)) = false := by simp
      clear ho hb3 hrow3
      go_wp2
      go_loopw [104] (fun i wi => ∃ i' : Nat, i' ≤ q ∧ i = .int .i64 i' ∧ ∃ d, wi = w3.drewN d) (fun i _ => q - (intOf i).toNat)
      case atStart => exact ⟨0, by omega, rfl, 0, rfl⟩
      case round =>
        obtain ⟨i, hi, rfl, d, rfl⟩ := hrel
        by_cases hiq : i < q
        · obtain ⟨kk, hkk, e1, e2⟩ := FA.out i hiq
          obtain ⟨b, o, rfl, _, hci⟩ := HI3.out i hiq
          obtain ⟨b3, o3, rfl, _, hcn⟩ := HR3.out i hiq
          obtain ⟨bp, op, rfl, _, hcp⟩ := HP3.out kk hkk
          rw [e1] at hci
          rw [e2] at hcn
          have hd0 : decide ((kk : Int) < 0) = false := decide_eq_false (by omega)
          have hdn : decide (j ≤ kk) = false := decide_eq_false (by omega)
          have hkn : (kk : Int) < (j : Int) := by omega
          have hiq' : (i : Int) < (q : Int) := by omega
          have hne : ((g kk).toList != (g kk).toList) = false := by simp
          have heq : ((g kk).toList == (g kk).toList) = true := by simp
          clear e1 e2
          go_wp2
          go_quiet (fail)
          go_wp2
          go_roundw
          case measure => simp [intOf]; omega
          case rel => exact ⟨i + 1, by omega, by go_num, _, rfl⟩
        · obtain rfl : i = q := by omega
          go_wp2_with fail
          have hnc : ((w3.drewN d).alloc (.cells #[.string s] 9)).cell? ⟨w3.heap.size, 0, none⟩ = some (.string s) := new_cell (w3.drewN d) _ _
          with_reducible refine (long_large s w3.heap.size _ hnc (by omega)).mono ?_
          rintro e w7 ⟨rfl, rfl⟩
          go_wp2
          go_ret
          exact ⟨rfl, (bl_drewN HB3.out _).alloc (by have := HB3.out.size; simpa using this) _⟩
set_option maxHeartbeats 2000000 in
set_option maxRecDepth 100000 in
theorem says_ok (s : ByteArray) (A : Option Addr) (n c : Nat) (g : Nat → ByteArray) (head : ByteArray) (w : World) (hs : s.size ≤ 200) (hrow : SRow w A n g) (hc : n ≤ c) (hx : patsErr g n = 0) :
    Calls Try.prog 3 #[.string s, .slice A n c, .string head] w fun e w' => e = .returned (.bool true) ∧ Below w.heap.size w w' := by
  have hn := (good_of hx).few
  have HG := hid (good_of hx)
  have HR := hid hrow
  clear hrow
  go_enter Try.func3, Try.ntmps3
  go_wp2_with fail
  with_reducible refine (TFind_ok _ _ _ _ g s hs HR.out hc hx).mono ?_
  rintro e w1 ⟨v, rfl, ho, hb1⟩
  obtain ⟨A1, c1, rfl, hc1, hrow⟩ := ho.row
  obtain ⟨m, hm⟩ : ∃ m, m = (hitsL g n (wd s) s.size).length := ⟨_, rfl⟩
  obtain ⟨hf, hhf⟩ : ∃ hf, hf = fun k => (hitsL g n (wd s) s.size).getD k (0, 0) := ⟨_, rfl⟩
  have hlen := hitsL_len g n (wd s) s.size
  have hmul : s.size * n ≤ 2000 := Nat.le_trans (Nat.mul_le_mul hs hn) (by omega)
  have hm2 : m ≤ 2000 := by omega
  rw [← hm] at hrow ⊢
  rw [← hhf] at hrow
  have HM := hid hm
  have HHF := hid hhf
  have HH1 := hid hrow
  have HR1 := hid (HR.out.keep hb1)
  have HB1 := hid hb1
  clear hrow ho hb1 hlen hmul hm hhf hc1
  go_wp2_with fail
  with_reducible refine (Fronts_ok _ _ _ _ g head HR1.out hc hx).mono ?_
  rintro e w2 ⟨Q, A2, c2, hQ, rfl, hrow2, hb2⟩
  have HQ := hid hQ
  have HR2 := hid (HR1.out.keep hb2)
  have HI2 := hid hrow2
  have HB2 := hid (bl_then HB1.out hb2)
  have HH2 := hid (HH1.out.keep hb2)
  clear hrow2 hb2 hQ
  go_wp2_with fail
  with_reducible refine (patsErr_in _ _ _ _ g HR2.out hc).mono ?_
  rw [hx]
  rintro e w3 ⟨rfl, rfl⟩
  go_wp2_with fail
  with_reducible refine (tcheck_in _ _ _ _ g HR2.out hc).mono ?_
  rw [hx]
  rintro e w3 ⟨rfl, rfl⟩
  obtain ⟨q, hq⟩ : ∃ q, q = Q.length := ⟨_, rfl⟩
  obtain ⟨f2, hf2⟩ : ∃ f2, f2 = fun k => idxW g n (Q.getD k []) := ⟨_, rfl⟩
  have hq10 : q ≤ 10 := by rw [hq]; exact Nat.le_trans HQ.out.len hn
  have FA : Hid (∀ i, i < q → ∃ k, k < n ∧ f2 i = (k : Int) ∧ encStr (Q.getD i []) = .string (g k)) := by
    rw [hq, hf2]
    exact fun i hi => says_at HG.out HQ.out hi
  have hI := HI2.out
  rw [← hq, ← hf2] at hI
  have HI := hid hI
  have HQL := hid hq
  rw [← hq]
  clear hI HI2 hq hf2
  go_wp2
  go_loopw [13, 79] (fun v i wr => ∃ j : Nat, j ≤ n ∧ i = .int .i64 j ∧ Hid (OwnW wr w2.heap.size v (namesL g (wd head) j)) ∧ Below w2.heap.size w2 wr) (fun _ i _ => n - (intOf i).toNat)
  case atStart => exact ⟨0, by omega, rfl, hid (OwnW.zero _ _), Below.refl _ _⟩
  case round =>
    obtain ⟨j, hj, rfl, HO, hbel⟩ := hrel
    by_cases hjn : j < n
    · obtain ⟨b, o, rfl, hlt, hc0⟩ := HR2.out j hjn
      have hce := (hbel.cell (p := ⟨b, o + j, none⟩) hlt).trans hc0
      have hsz := hbel.size
      have hln := namesL_len g (wd head) j
      clear hc0
      go_wp2_with fail
      with_reducible refine (Try.strings_HasPrefix _ _ _).mono ?_
      rintro e w5 ⟨rfl, rfl⟩
      have hiff : Lib.hasPrefix (g j).data.toList head.data.toList = true ↔ wd head <+: wd (g j) := by
        unfold Lib.hasPrefix
        exact List.isPrefixOf_iff_prefix
      by_cases hp : wd head <+: wd (g j)
      · rw [hiff.2 hp]
        have HP := hid hp
        clear hp hiff
        go_wp2_with (at_builtin; with_reducible refine app_wd rfl _ _ rfl rfl HO.out _ rfl rfl hsz (by omega) ?_)
        intro v' w6 hown hb6
        have G1 := hid hown
        have G2 := hid (hbel.trans hb6)
        clear hown hb6
        go_wp2
        go_roundw
        case measure => simp [intOf]; omega
        case rel => exact ⟨j + 1, by omega, by go_num, by rw [namesL_yes HP.out]; exact G1, G2.out⟩
      · have hpf : Lib.hasPrefix (g j).data.toList head.data.toList = false := by
          rw [Bool.eq_false_iff]
          exact fun h => hp (hiff.1 h)
        rw [hpf]
        have HP := hid hp
        clear hp hiff hpf
        go_wp2
        go_roundw
        case measure => simp [intOf]; omega
        case rel => exact ⟨j + 1, by omega, by go_num, by rw [namesL_no HP.out]; exact HO, hbel⟩
    · obtain rfl : j = n := by omega
      have hln := namesL_len g (wd head) j
      go_wp2_with fail
      with_reducible refine (sort_own_s _ _ _ _ HO.out (by omega) hbel.size).mono ?_
      rintro e w3 ⟨rfl, ho, hb3⟩
      rw [(HG.out.names (wd head)).unique HQ.out] at ho
      obtain ⟨A3, c3, rfl, hrow3⟩ := ho.row
      rw [← HQL.out] at hrow3 ⊢
      have HR3 := hid hrow3
      have HB23 := hid (hbel.trans hb3)
      have HI3 := hid (HI.out.keep HB23.out)
      have HP3 := hid (HR2.out.keep HB23.out)
      have HB3 := hid (bl_then HB2.out HB23.out)
      have HH3 := hid (HH2.out.keep HB23.out)
      have hqq : ((q : Int) != (q : Int)) = false := by simp
      clear ho hb3 hrow3
      go_wp2
      go_loopw [104] (fun i wi => ∃ i' : Nat, i' ≤ q ∧ i = .int .i64 i' ∧ ∃ d, wi = w3.drewN d) (fun i _ => q - (intOf i).toNat)
      case atStart => exact ⟨0, by omega, rfl, 0, rfl⟩
      case round =>
        obtain ⟨i, hi, rfl, d, rfl⟩ := hrel
        by_cases hiq : i < q
        · obtain ⟨kk, hkk, e1, e2⟩ := FA.out i hiq
          obtain ⟨b, o, rfl, _, hci⟩ := HI3.out i hiq
          obtain ⟨b3, o3, rfl, _, hcn⟩ := HR3.out i hiq
          obtain ⟨bp, op, rfl, _, hcp⟩ := HP3.out kk hkk
          rw [e1] at hci
          rw [e2] at hcn
          have hd0 : decide ((kk : Int) < 0) = false := decide_eq_false (by omega)
          have hdn : decide (j ≤ kk) = false := decide_eq_false (by omega)
          have hkn : (kk : Int) < (j : Int) := by omega
          have hiq' : (i : Int) < (q : Int) := by omega
          have hne : ((g kk).toList != (g kk).toList) = false := by simp
          have heq : ((g kk).toList == (g kk).toList) = true := by simp
          clear e1 e2
          go_wp2
          go_quiet (fail)
          go_wp2
          go_roundw
          case measure => simp [intOf]; omega
          case rel => exact ⟨i + 1, by omega, by go_num, _, rfl⟩
        · obtain rfl : i = q := by omega
          go_wp2_with fail
          have hnc : ((w3.drewN d).alloc (.cells #[.string s] 9)).cell? ⟨w3.heap.size, 0, none⟩ = some (.string s) := new_cell (w3.drewN d) _ _
          with_reducible refine (long_ok s w3.heap.size _ hnc hs).mono ?_
          rintro e w7 ⟨rfl, rfl⟩
          have HB7 : Hid (Below w3.heap.size w3 ((w3.drewN d).alloc (.cells #[.string s] 9))) := (bl_drewN (Below.refl _ _) d).alloc (by simp) _
          go_wp2_with fail
          with_reducible refine (hitsOf_ok _ _ _ _ g s hs hn (HP3.out.keep HB7.out)).mono ?_
          rintro e w8 ⟨v8, rfl, ho8, hb8⟩
          obtain ⟨A8, c8, rfl, _, hrow8⟩ := ho8.row
          rw [← HM.out, ← HHF.out] at hrow8
          rw [← HM.out]
          have HR8 := hid hrow8
          have HB8 := hid (bl_then HB7.out hb8)
          clear ho8 hrow8 hb8
          go_wp2_with fail
          with_reducible refine (halike_any (HH3.out.keep HB8.out) HR8.out (by unfold maxLen; omega) (by unfold maxLen; omega)).mono ?_
          rw [show eqH m m hf hf = true from eqH_true.2 ⟨rfl, fun _ _ => rfl⟩]
          rintro e w9 ⟨rfl, hd9⟩
          have HD9 := hid hd9
          clear hd9
          go_wp2
          go_ret
          exact ⟨rfl, (bl_then HB3.out HB8.out).trans (HD9.out.below _)⟩
set_option maxHeartbeats 1000000 in
set_option maxRecDepth 100000 in
theorem says_err (s : ByteArray) (A : Option Addr) (n c : Nat) (g : Nat → ByteArray) (head : ByteArray) (w : World) (hs : s.size ≤ 200) (hrow : SRow w A n g) (hc : n ≤ c) (hx : patsErr g n ≠ 0) :
    Calls Try.prog 3 #[.string s, .slice A n c, .string head] w fun e w' => e = .returned (.bool true) ∧ Below w.heap.size w w' := by
  have HR := hid hrow
  have hx1 : (patsErr g n != 0) = true := bne_iff_ne.2 hx
  have hx2 : (patsErr g n == patsErr g n) = true := by simp
  have hx3 : (patsErr g n != patsErr g n) = false := by simp
  clear hrow
  go_enter Try.func3, Try.ntmps3
  go_wp2_with fail
  with_reducible refine (TFind_err _ _ _ _ g s hs HR.out hc hx).mono ?_
  rintro e w1 ⟨rfl, rfl⟩
  go_wp2_with fail
  with_reducible refine (Fronts_err _ _ _ _ g head HR.out hc hx).mono ?_
  rintro e w1 ⟨rfl, rfl⟩
  go_wp2_with fail
  with_reducible refine (patsErr_in _ _ _ _ g HR.out hc).mono ?_
  rintro e w1 ⟨rfl, rfl⟩
  go_wp2_with fail
  with_reducible refine (tcheck_in _ _ _ _ g HR.out hc).mono ?_
  rintro e w1 ⟨rfl, rfl⟩
  go_wp2_with fail
  with_reducible refine (long_ok s _ _ (new_cell _ _ _) hs).mono ?_
  rintro e w1 ⟨rfl, rfl⟩
  go_wp2
  go_ret
  exact ⟨rfl, bl_new _ _⟩
set_option maxHeartbeats 1000000 in
set_option maxRecDepth 100000 in
theorem says_both (s : ByteArray) (A : Option Addr) (n c : Nat) (g : Nat → ByteArray) (head : ByteArray) (w : World) (hs : 200 < s.size) (hrow : SRow w A n g) (hc : n ≤ c) (hx : patsErr g n ≠ 0) :
    Calls Try.prog 3 #[.string s, .slice A n c, .string head] w fun e w' => e = .returned (.bool true) ∧ Below w.heap.size w w' := by
  have HR := hid hrow
  have hx1 : (patsErr g n != 0) = true := bne_iff_ne.2 hx
  have hx2 : (patsErr g n == patsErr g n) = true := by simp
  have hx3 : (patsErr g n != patsErr g n) = false := by simp
  clear hrow
  go_enter Try.func3, Try.ntmps3
  go_wp2_with fail
  with_reducible refine (TFind_large _ _ _ _ s hs).mono ?_
  rintro e w1 ⟨rfl, rfl⟩
  go_wp2_with fail
  with_reducible refine (Fronts_err _ _ _ _ g head HR.out hc hx).mono ?_
  rintro e w1 ⟨rfl, rfl⟩
  go_wp2_with fail
  with_reducible refine (patsErr_in _ _ _ _ g HR.out hc).mono ?_
  rintro e w1 ⟨rfl, rfl⟩
  go_wp2_with fail
  with_reducible refine (tcheck_in _ _ _ _ g HR.out hc).mono ?_
  rintro e w1 ⟨rfl, rfl⟩
  go_wp2_with fail
  with_reducible refine (long_large s _ _ (new_cell _ _ _) hs).mono ?_
  rintro e w1 ⟨rfl, rfl⟩
  go_wp2
  go_ret
  exact ⟨rfl, bl_new _ _⟩

theorem trieSays_walk (s : ByteArray) (A : Option Addr) (n c : Nat) (g : Nat → ByteArray) (head : ByteArray) (w : World) (_ : s.size ≤ 140737488351232) (hrow : SRow w A n g) (hc : n ≤ c) (_ : n * 16 ≤ 140737488351232) (_ : head.size ≤ 140737488351232) :
    Calls Try.prog 3 #[.string s, .slice A n c, .string head] w fun e w' => e = .returned (.bool true) ∧ Below w.heap.size w w' := by
  by_cases hx : patsErr g n = 0
  · by_cases hs : s.size ≤ 200
    · exact says_ok s A n c g head w hs hrow hc hx
    · exact says_large s A n c g head w (by omega) hrow hc hx
  · by_cases hs : s.size ≤ 200
    · exact says_err s A n c g head w hs hrow hc hx
    · exact says_both s A n c g head w (by omega) hrow hc hx
end Go.Proofs.Ythfbilaklllelaa
