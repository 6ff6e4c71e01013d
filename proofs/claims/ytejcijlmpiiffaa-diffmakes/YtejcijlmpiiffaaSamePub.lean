
/-
The contracts of package same: Check, Long, Places, Within.
-/
import Derived.Test.YtejcijlmpiiffaaSameTab
import Derived.Test.YtejcijlmpiiffaaTwo
namespace Go.Proofs.Ytejcijlmpiiffaa
open Go.RowKit

theorem sameCheck_ok (a b : ByteArray) (w : World) (ha : a.size ≤ 200) (hb : b.size ≤ 200) : Calls Try.prog 34 #[.string a, .string b] w fun e w' => e = .returned (.int .i64 0) ∧ w = w' := by
  go_enter Try.func34, Try.ntmps34
  go_wp2_with fail
  with_reducible refine (check_ok a _ ha).mono ?_
  rintro e w1 ⟨rfl, rfl⟩
  go_wp2_with fail
  with_reducible refine (check_ok b _ hb).mono ?_
  rintro e w1 ⟨rfl, rfl⟩
  go_wp2
  go_ret
  exact ⟨rfl, rfl⟩
theorem sameCheck_large (a b : ByteArray) (w : World) (h : 200 < a.size ∨ 200 < b.size) : Calls Try.prog 34 #[.string a, .string b] w fun e w' => e = .returned (.int .i64 2) ∧ w = w' := by
  by_cases ha : a.size ≤ 200
  · have hb : 200 < b.size := by omega
    clear h
    go_enter Try.func34, Try.ntmps34
    go_wp2_with fail
    with_reducible refine (check_ok a _ ha).mono ?_
    rintro e w1 ⟨rfl, rfl⟩
    go_wp2_with fail
    with_reducible refine (check_large b _ hb).mono ?_
    rintro e w1 ⟨rfl, rfl⟩
    go_wp2
    go_ret
    exact ⟨rfl, rfl⟩
  · have ha' : 200 < a.size := by omega
    clear h ha
    go_enter Try.func34, Try.ntmps34
    go_wp2_with fail
    with_reducible refine (check_large a _ ha').mono ?_
    rintro e w1 ⟨rfl, rfl⟩
    go_wp2
    go_ret
    exact ⟨rfl, rfl⟩

theorem Long_ok (a b : ByteArray) (w : World) (ha : a.size ≤ 200) (hb : b.size ≤ 200) :
    Calls Try.prog 21 #[.string a, .string b] w fun e w' => e = .returned (.tuple #[.int .i64 (Sa.lc (lst a) (lst b) : Nat), .int .i64 0]) ∧ Below w.heap.size w w' := by
  go_enter Try.func21, Try.ntmps21
  go_wp2_with fail
  with_reducible refine (sameCheck_ok a b _ ha hb).mono ?_
  rintro e w1 ⟨rfl, rfl⟩
  go_wp2_with fail
  with_reducible refine (common_ok a b _ ha hb).mono ?_
  rintro e w1 ⟨rfl, hT⟩
  have c1 := hT.rowAt (i := 0) (by omega) (by omega)
  have c2 := hT.at_ (i := 0) (j := 0) (by omega) (by omega)
  rw [Sa.rest_zero] at c2
  have HB := hid hT.below
  clear hT
  have h0 : (0 : Int) < (a.size : Int) + 1 := by omega
  have h1 : (0 : Int) < (b.size : Int) + 1 := by omega
  go_wp2
  go_ret2
  exact ⟨rfl, HB.out⟩
theorem Long_large (a b : ByteArray) (w : World) (h : 200 < a.size ∨ 200 < b.size) :
    Calls Try.prog 21 #[.string a, .string b] w fun e w' => e = .returned (.tuple #[.int .i64 0, .int .i64 2]) ∧ w = w' := by
  go_enter Try.func21, Try.ntmps21
  go_wp2_with fail
  with_reducible refine (sameCheck_large a b _ h).mono ?_
  rintro e w1 ⟨rfl, rfl⟩
  go_wp2
  go_ret2
  exact ⟨rfl, rfl⟩

/-- What Places answers: the places of a longest common subsequence, in two rows of new memory. -/
def PlPost (a b : ByteArray) (w : World) (e : Ending) (w' : World) : Prop :=
  ∃ (L M : List Nat) (A B : Option Addr) (c d : Nat), Sa.Lcs (lst a) (lst b) L M ∧ e = .returned (.tuple #[.slice A L.length c, .slice B M.length d, .int .i64 0]) ∧ IRow w' A L.length (fun k => (L.getD k 0 : Nat)) ∧ IRow w' B M.length (fun k => (M.getD k 0 : Nat)) ∧ Below w.heap.size w w'
set_option maxHeartbeats 2000000 in
theorem places_ok (a b : ByteArray) (w : World) (ha : a.size ≤ 200) (hb : b.size ≤ 200) :
    Calls Try.prog 42 #[.string a, .string b] w fun e w' => ∃ (L M : List Nat) (v u : Value), Sa.Lcs (lst a) (lst b) L M ∧ e = .returned (.tuple #[v, u]) ∧ OwnI w' w.heap.size v (ofN L) ∧ OwnI w' w.heap.size u (ofN M) ∧ Below w.heap.size w w' ∧ Apt v u := by
  have hla := lst_len a
  have hlb := lst_len b
  have HLA := hid hla
  have HLB := hid hlb
  clear hla hlb
  go_enter Try.func42, Try.ntmps42
  go_wp2_with fail
  with_reducible refine (common_ok a b _ ha hb).mono ?_
  rintro e w1 ⟨rfl, hT⟩
  have HT := hid hT
  clear hT
  have hsz1 := HT.out.base
  have HC : Hid (∀ wr : World, Below w1.heap.size w1 wr → ∀ i j : Nat, i < a.size + 1 → j < b.size + 1 → wr.cell? ⟨w.heap.size, i, none⟩ = some (.slice (some ⟨w.heap.size + 1 + i, 0, none⟩) (b.size + 1) (b.size + 1)) ∧ wr.cell? ⟨w.heap.size + 1 + i, j, none⟩ = some (.int .i64 (Sa.rest (lst a) (lst b) i j : Nat))) := fun wr hb i j hi hj =>
    ⟨(hb.cell (p := ⟨w.heap.size, i, none⟩) (show w.heap.size < w1.heap.size by omega)).trans (HT.out.rowAt hi hi), (hb.cell (p := ⟨w.heap.size + 1 + i, j, none⟩) (show w.heap.size + 1 + i < w1.heap.size by omega)).trans (HT.out.at_ hi hj)⟩
  have HW1 := hid HT.out.below
  have HL1 := hid (show w.heap.size ≤ w1.heap.size by omega)
  clear HT hsz1
  go_wp2
  go_loopw [7, 8, 9, 10] (fun v u x y wr => ∃ (L M : List Nat) (i j : Nat), x = .int .i64 (i : Int) ∧ y = .int .i64 (j : Int) ∧ i ≤ a.size ∧ j ≤ b.size ∧ Hid (Sa.Pl (lst a) (lst b) L M i j) ∧ Hid (OwnI wr w1.heap.size v (ofN L)) ∧ Hid (OwnI wr w1.heap.size u (ofN M)) ∧ Hid (Apt v u) ∧ Hid (Below w1.heap.size w1 wr)) (fun _ _ x y _ => a.size - (intOf x).toNat + (b.size - (intOf y).toNat))
  case atStart => exact ⟨[], [], 0, 0, rfl, rfl, by omega, by omega, Sa.Pl.start _ _, OwnI.zero _ _, OwnI.zero _ _, Apt.zero _, Below.refl _ _⟩
  case round =>
    obtain ⟨L, M, i, j, rfl, rfl, hi, hj, HP, HV, HU, HA, HB⟩ := hrel
    have hi' : (i : Int) < (a.size : Int) + 1 := by omega
    have hj' : (j : Int) < (b.size : Int) + 1 := by omega
    have cell := fun i j hi hj => HC.out wr HB.out i j hi hj
    obtain ⟨c1, c2⟩ := cell i j (by omega) (by omega)
    obtain ⟨r, hr⟩ : ∃ r, r = Sa.rest (lst a) (lst b) i j := ⟨_, rfl⟩
    rw [← hr] at c2
    by_cases hr0 : 0 < r
    · have hr0' : (0 : Int) < (r : Int) := by omega
      obtain ⟨hia, hjb⟩ := Sa.rest_pos (a := lst a) (b := lst b) (i := i) (j := j) (by omega)
      rw [HLA.out] at hia
      rw [HLB.out] at hjb
      have hia' : (i : Int) < (a.size : Int) := by omega
      have hjb' : (j : Int) < (b.size : Int) := by omega
      by_cases he : byt a i = byt b j
      · have heq : ((a[i].toNat : Int) == (b[j].toNat : Int)) = true := by rw [← byt_eq hia, ← byt_eq hjb, he]; simp
        have HP2 := hid (HP.out.hit (by rw [HLA.out]; exact hia) (by rw [HLB.out]; exact hjb) he)
        have hl1 : (ofN L).length < 1000000 := by rw [ofN_len]; have := HP.out.len; have := HLA.out; omega
        have hl2 : (ofN M).length < 1000000 := by rw [ofN_len, ← HP.out.same]; have := HP.out.len; have := HLA.out; omega
        have HSM := hid HP.out.same
        have hszr : ∀ d, w1.heap.size ≤ (wr.drewN d).heap.size := fun _ => HB.out.size
        clear he HP cell hr
        go_wp2
        go_quiet (fail)
        go_wp2_with (at_builtin; with_reducible refine app_intT rfl _ _ rfl rfl (HV.out.drewN _) _ rfl rfl (hszr _) hl1 ?_)
        intro v' w3 hown3 hb3 hg3 hv3
        rw [← ofN_snoc] at hown3
        have HV3 := hid hown3
        have HU3 := hid ((HU.out.drewN _).apt hg3 HA.out)
        have HA3 := hid (HA.out.next HU.out.blk hv3).turn
        have HB3 := hid ((bl_drewN HB.out _).trans hb3)
        have hsz3 := HB3.out.size
        clear hown3 hb3 hg3 hv3 HV HU HA HB hszr
        go_wp2_with (at_builtin; with_reducible refine app_intT rfl _ _ rfl rfl HU3.out _ rfl rfl hsz3 hl2 ?_)
        intro u' w4 hown4 hb4 hg4 hv4
        rw [← ofN_snoc] at hown4
        have HU4 := hid hown4
        have HV4 := hid (HV3.out.apt hg4 HA3.out)
        have HA4 := hid (HA3.out.next HV3.out.blk hv4).turn
        have HB4 := hid (HB3.out.trans hb4)
        clear hown4 hb4 hg4 hv4 HV3 HU3 HA3 HB3 hsz3
        go_wp2
        go_roundw
        case rel => exact ⟨L ++ [i], M ++ [j], i + 1, j + 1, by go_num, by go_num, by omega, by omega, HP2, HV4, HU4, HA4, HB4⟩
        case measure => simp [intOf]; omega
      · have heq : ((a[i].toNat : Int) == (b[j].toNat : Int)) = false := by rw [← byt_eq hia, ← byt_eq hjb]; exact (byte_ne he).2
        obtain ⟨i2, hi2⟩ : ∃ i2, i2 = i + 1 := ⟨_, rfl⟩
        have ei2 : (i : Int) + 1 = (i2 : Int) := by omega
        have hwi2 : IntKind.i64.wrap (i2 : Int) = (i2 : Int) := IntWalk.i64_in _ (by omega)
        have i20 : (0 : Int) ≤ (i2 : Int) := by omega
        have hi2N : (i2 : Int) < (a.size : Int) + 1 := by omega
        obtain ⟨c3, c4⟩ := cell i2 j (by omega) (by omega)
        obtain ⟨q, hq⟩ : ∃ q, q = Sa.rest (lst a) (lst b) i2 j := ⟨_, rfl⟩
        rw [← hq] at c4
        by_cases hqr : q = r
        · have hqe : ((q : Int) == (r : Int)) = true := by rw [hqr]; simp
          have HP2 := hid (HP.out.down (by rw [HLA.out]; exact hia) (by rw [← hr, ← hqr, hq, hi2]))
          rw [← hi2] at HP2
          clear he HP cell hr hq hqr hi2
          go_wp2
          go_quiet (fail)
          go_wp2
          go_quiet (fail)
          go_wp2
          go_roundw
          case rel => exact ⟨L, M, i2, j, by go_num, by trivial, by omega, by omega, HP2, HV.out.drewN _, HU.out.drewN _, HA, bl_drewN HB.out _⟩
          case measure => simp [intOf]; omega
        · have hqe : ((q : Int) == (r : Int)) = false := beq_eq_false_iff_ne.2 (by omega)
          have HP2 := hid (HP.out.over (by rw [HLA.out]; exact hia) (by rw [HLB.out]; exact hjb) he (by rw [← hr, ← hi2, ← hq]; exact hqr))
          clear he HP cell hr hq hqr hi2
          go_wp2
          go_quiet (fail)
          go_wp2
          go_quiet (fail)
          go_wp2
          go_roundw
          case rel => exact ⟨L, M, i, j + 1, by trivial, by go_num, by omega, by omega, HP2, HV.out.drewN _, HU.out.drewN _, HA, bl_drewN HB.out _⟩
          case measure => simp [intOf]; omega
    · have hr0' : r = 0 := by omega
      subst hr0'
      have HL := hid (HP.out.done (by omega))
      clear HP cell hr
      go_wp2
      go_ret2
      exact ⟨L, M, _, _, HL.out, rfl, own_low HV.out HL1.out, own_low HU.out HL1.out, HW1.out.trans (HB.out.mono HL1.out), HA.out⟩
theorem Places_ok (a b : ByteArray) (w : World) (ha : a.size ≤ 200) (hb : b.size ≤ 200) :
    Calls Try.prog 24 #[.string a, .string b] w (PlPost a b w) := by
  go_enter Try.func24, Try.ntmps24
  go_wp2_with fail
  with_reducible refine (sameCheck_ok a b _ ha hb).mono ?_
  rintro e w1 ⟨rfl, rfl⟩
  go_wp2_with fail
  with_reducible refine (places_ok a b _ ha hb).mono ?_
  rintro e w2 ⟨L, M, v, u, hl, rfl, hv, hu, hb2, _⟩
  obtain ⟨A, c, hA, hr1⟩ := hv.irow
  obtain ⟨B, d, hB, hr2⟩ := hu.irow
  rw [ofN_len] at hA hB hr1 hr2
  subst hA hB
  have H := hid (show PlPost a b w (.returned (.tuple #[.slice A L.length c, .slice B M.length d, .int .i64 0])) w2 from ⟨L, M, A, B, c, d, hl, rfl, hr1.congr fun k _ => ofN_get L k, hr2.congr fun k _ => ofN_get M k, hb2⟩)
  clear hl hv hu hb2 hr1 hr2
  go_wp2
  go_ret3
  exact H.out
/-- The same, with all that a caller must know who appends to them. -/
theorem Places_own (a b : ByteArray) (w : World) (ha : a.size ≤ 200) (hb : b.size ≤ 200) :
    Calls Try.prog 24 #[.string a, .string b] w fun e w' => ∃ (L M : List Nat) (v u : Value), Sa.Lcs (lst a) (lst b) L M ∧ e = .returned (.tuple #[v, u, .int .i64 0]) ∧ OwnI w' w.heap.size v (ofN L) ∧ OwnI w' w.heap.size u (ofN M) ∧ Below w.heap.size w w' ∧ Apt v u := by
  go_enter Try.func24, Try.ntmps24
  go_wp2_with fail
  with_reducible refine (sameCheck_ok a b _ ha hb).mono ?_
  rintro e w1 ⟨rfl, rfl⟩
  go_wp2_with fail
  with_reducible refine (places_ok a b _ ha hb).mono ?_
  rintro e w2 ⟨L, M, v, u, hl, rfl, hv, hu, hb2, hap⟩
  have HL := hid hl
  have HV := hid hv
  have HU := hid hu
  have HB := hid hb2
  have HA := hid hap
  clear hl hv hu hb2 hap
  go_wp2
  go_ret3
  exact ⟨L, M, v, u, HL.out, rfl, HV.out, HU.out, HB.out, HA.out⟩
theorem Places_large (a b : ByteArray) (w : World) (h : 200 < a.size ∨ 200 < b.size) :
    Calls Try.prog 24 #[.string a, .string b] w fun e w' => e = .returned (.tuple #[.slice none 0 0, .slice none 0 0, .int .i64 2]) ∧ w = w' := by
  go_enter Try.func24, Try.ntmps24
  go_wp2_with fail
  with_reducible refine (sameCheck_large a b _ h).mono ?_
  rintro e w1 ⟨rfl, rfl⟩
  go_wp2
  go_ret3
  exact ⟨rfl, rfl⟩
end Go.Proofs.Ytejcijlmpiiffaa
