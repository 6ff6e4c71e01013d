/-
The walk of quillkeep.TrieFronts: it returns true for all lists of patterns and strings.
-/
import Derived.Test.YthfbilaklllelaaTFronts
import Derived.Test.YthfbilaklllelaaTries
import Derived.Test.YthfbilaklllelaaKeep
import Derived.Test.YthfbilaklllelaaApp
import Derived.Deep.RegionHeld3
import Derived.Sort.Walk0
import Derived.Laws.Cover1
import Derived.Test.YthfbilaklllelaaShelfP
namespace Go.Proofs.Ythfbilaklllelaa
open Go.RowKit

theorem fronts_clo (N : Nat) (A : Option Addr) (m c : Nat) (h : Nat → Int) (x : Int) (w : World) (hN : w.cell? ⟨N, 0, none⟩ = some (.slice A m c)) (hr : IRow w A m h) (hm : m ≤ maxLen) (hx : ∃ j, j < m ∧ h j = x) :
    Calls Try.prog 27 #[.int .i64 x, .pointer (some ⟨N, 0, none⟩)] w fun e w' => e = .returned (.bool false) ∧ w = w' := by
  have HR := hid hr
  have HX := hid hx
  clear hr hx
  go_enter Try.func27, Try.ntmps27
  go_wp2_with fail
  with_reducible refine (contains_yes HR.out hm HX.out).mono ?_
  rintro e w1 ⟨rfl, rfl⟩
  go_wp2
  go_ret
  exact ⟨rfl, rfl⟩
theorem fronts_idx (N : Nat) (A1 : Option Addr) (m c1 : Nat) (h : Nat → Int) (A : Option Addr) (n c : Nat) (f : Nat → Int) (w : World) (hN : w.cell? ⟨N, 0, none⟩ = some (.slice A1 m c1)) (hr : IRow w A1 m h) (hm : m ≤ maxLen)
    (hf : IRow w A n f) (hn : n ≤ maxLen) (hx : ∀ k, k < n → ∃ j, j < m ∧ h j = f k) :
    Calls Try.prog 44 #[.slice A n c, .func (.func 27) #[] #[.pointer (some ⟨N, 0, none⟩)]] w fun e w' => e = .returned (.int .i64 (-1)) ∧ w = w' := by
  have HR := hid hr
  have HX := hid hx
  have HF := hid hf
  have HN := hid hN
  clear hr hx hf hN
  unfold maxLen at hn
  go_enter Try.func44, Try.ntmps44
  go_wp2
  go_loopw [8] (fun i wr => ∃ k : Nat, k ≤ n ∧ i = .int .i64 k ∧ wr = w) (fun i _ => n - (intOf i).toNat)
  case atStart => exact ⟨0, by omega, rfl, rfl⟩
  case round =>
    obtain ⟨k, hk, rfl, rfl⟩ := hrel
    by_cases h : k < n
    · obtain ⟨b, o, rfl, _, hc⟩ := HF.out k h
      go_wp2_with fail
      with_reducible refine (fronts_clo _ _ _ _ _ _ _ HN.out HR.out hm (HX.out k h)).mono ?_
      rintro e w1 ⟨rfl, rfl⟩
      go_wp2
      go_roundw
      case measure => simp [intOf]; omega
      case rel => exact ⟨k + 1, by omega, by go_num, trivial⟩
    · go_wp2
      go_ret
      exact ⟨rfl, rfl⟩
theorem fronts_has (N : Nat) (A1 : Option Addr) (m c1 : Nat) (h : Nat → Int) (A : Option Addr) (n c : Nat) (f : Nat → Int) (w : World) (hN : w.cell? ⟨N, 0, none⟩ = some (.slice A1 m c1)) (hr : IRow w A1 m h) (hm : m ≤ maxLen)
    (hf : IRow w A n f) (hn : n ≤ maxLen) (hx : ∀ k, k < n → ∃ j, j < m ∧ h j = f k) :
    Calls Try.prog 26 #[.slice A n c, .func (.func 27) #[] #[.pointer (some ⟨N, 0, none⟩)]] w fun e w' => e = .returned (.bool false) ∧ w = w' := by
  have HR := hid hr
  have HX := hid hx
  have HF := hid hf
  have HN := hid hN
  clear hr hx hf hN
  go_enter Try.func26, Try.ntmps26
  go_wp2_with fail
  with_reducible refine (fronts_idx _ _ _ _ _ _ _ _ _ _ HN.out HR.out hm HF.out hn HX.out).mono ?_
  rintro e w1 ⟨rfl, rfl⟩
  go_wp2
  go_ret
  exact ⟨rfl, rfl⟩

/-- The three words of the example. -/
def frontsP (k : Nat) : ByteArray := [(⟨#[98]⟩ : ByteArray), ⟨#[97, 98]⟩, ⟨#[97]⟩].getD k ⟨#[]⟩
theorem frontsP_err : patsErr frontsP 3 = 0 := by decide +kernel
theorem frontsP_q : FrontQ frontsP 3 (wd ⟨#[]⟩) [[97], [97, 98], [98]] := by
  refine ⟨by decide, fun q => ?_⟩
  constructor
  · intro h
    simp only [List.mem_cons, List.not_mem_nil, or_false] at h
    rcases h with rfl | rfl | rfl
    · exact ⟨2, by omega, rfl, List.nil_prefix⟩
    · exact ⟨1, by omega, rfl, List.nil_prefix⟩
    · exact ⟨0, by omega, rfl, List.nil_prefix⟩
  · rintro ⟨k, hk, rfl, _⟩
    match k, hk with
    | 0, _ => decide
    | 1, _ => decide
    | 2, _ => decide
theorem frontsP_eq : eqB 3 3 (fun k => idxW frontsP 3 (([[97], [97, 98], [98]] : List (List UInt8)).getD k [])) (fun k => ([2, 1, 0] : List Int).getD k 0) = true := by
  refine eqB_true.2 ⟨rfl, fun k hk => ?_⟩
  match k, hk with
  | 0, _ => decide +kernel
  | 1, _ => decide +kernel
  | 2, _ => decide +kernel

/-- What an index in the answer says. -/
theorem front_at {g : Nat → ByteArray} {n : Nat} (hg : Good g n) {f : (List UInt8)} {Q : List (List UInt8)} (hQ : FrontQ g n f Q) {i : Nat} (hi : i < Q.length) : ∃ k, k < n ∧ idxW g n (Q.getD i []) = (k : Int) ∧ wd (g k) = Q.getD i [] ∧ f <+: wd (g k) := by
  have hm : Q.getD i [] ∈ Q := by rw [getD_lt hi]; exact List.getElem_mem hi
  obtain ⟨k, hk, e, hp⟩ := (hQ.mem _).1 hm
  exact ⟨k, hk, by rw [e]; exact hg.idx hk, e.symm, by rw [← e]; exact hp⟩
theorem front_lt {g : Nat → ByteArray} {n : Nat} {f : (List UInt8)} {Q : List (List UInt8)} (hQ : FrontQ g n f Q) {i : Nat} (hi : i + 1 < Q.length) : Q.getD i [] < Q.getD (i + 1) [] := by
  rw [getD_lt (by omega), getD_lt hi]
  exact List.pairwise_iff_getElem.1 hQ.rise i (i + 1) (by omega) hi (by omega)
theorem wd_app (a b : ByteArray) : wd (a ++ b) = wd a ++ wd b := by
  unfold wd
  rw [ByteArray.data_append, Array.toList_append]

set_option maxHeartbeats 1000000 in
set_option maxRecDepth 100000 in
theorem fronts_ok (A : Option Addr) (n c : Nat) (g : Nat → ByteArray) (head more : ByteArray) (w : World) (hrow : SRow w A n g) (hc : n ≤ c) (h1 : head.size ≤ 140737488351232) (h2 : more.size ≤ 140737488351232) (hx : patsErr g n = 0) :
    Calls Try.prog 6 #[.slice A n c, .string head, .string more] w fun e w' => e = .returned (.bool true) ∧ Below w.heap.size w w' := by
  have hn := (good_of hx).few
  have HG := hid (good_of hx)
  have HR := hid hrow
  have hadd := fun W : World => run_string_add_sum (P := Try.prog) W head more (by omega)
  obtain ⟨hm, hhm⟩ : ∃ hm, hm = head ++ more := ⟨_, rfl⟩
  simp only [← hhm] at hadd
  have HHM := hid hhm
  clear hrow hhm
  go_enter Try.func6, Try.ntmps6
  have HS : Hid (SRow (w.alloc (.cells #[.string ⟨#[98]⟩, .string ⟨#[97, 98]⟩, .string ⟨#[97]⟩] 9)) (some ⟨w.heap.size, 0, none⟩) 3 frontsP) :=
    SRow.lit w [(⟨#[98]⟩ : ByteArray), ⟨#[97, 98]⟩, ⟨#[97]⟩] 9 3 rfl
  go_wp2_with fail
  with_reducible refine (Fronts_ok _ _ 3 3 frontsP ⟨#[]⟩ HS.out (by omega) frontsP_err).mono ?_
  rintro e w1 ⟨Q, A0, c0, hQ, rfl, hrow0, hb0⟩
  obtain rfl := hQ.unique frontsP_q
  have e3 : ([[97], [97, 98], [98]] : List (List UInt8)).length = 3 := rfl
  rw [e3] at hrow0 ⊢
  have HR0 := hid hrow0
  have HB0 := hid (bl_then (bl_new w _) hb0)
  have HL : Hid (IRow (w1.alloc (.cells #[.int .i64 2, .int .i64 1, .int .i64 0] 3)) (some ⟨w1.heap.size, 0, none⟩) 3 (fun k => ([2, 1, 0] : List Int).getD k 0)) :=
    IRow.lit w1 [2, 1, 0] 3 3 w1.heap.size rfl rfl
  clear hrow0 hb0 hQ e3 HS
  go_wp2_with fail
  with_reducible refine (equal_any (n := 3) (m := 3) (HR0.out.alloc _) HL.out (by decide) (by decide)).mono ?_
  rw [frontsP_eq]
  rintro e w2 ⟨rfl, hd⟩
  have HB2 := hid ((bl_then HB0.out (bl_new w1 _)).trans (hd.below _))
  clear hd HR0 HL HB0
  go_wp2_with fail
  with_reducible refine (Fronts_ok _ _ _ _ g head (HR.out.keep HB2.out) hc hx).mono ?_
  rintro e w3 ⟨Q1, A1, c1, hQ1, rfl, hrow1, hb1⟩
  have HQ1 := hid hQ1
  have HR1 := hid hrow1
  have HB3 := hid (bl_then HB2.out hb1)
  clear hQ1 hrow1 hb1
  go_wp2_with fail
  with_reducible refine (Fronts_ok _ _ _ _ g hm (HR.out.keep (HB3.out.trans ((Below.refl _ _).alloc HB3.out.size _))) hc hx).mono ?_
  rintro e w4 ⟨Q2, A2, c2, hQ2, rfl, hrow2, hb2⟩
  obtain ⟨q1, hq1⟩ : ∃ q1, q1 = Q1.length := ⟨_, rfl⟩
  obtain ⟨f1, hf1⟩ : ∃ f1, f1 = fun k => idxW g n (Q1.getD k []) := ⟨_, rfl⟩
  have hq10 : q1 ≤ 10 := by have := HQ1.out.len; omega
  have hq20 : Q2.length ≤ 10 := by have := hQ2.len; omega
  have FA : Hid (∀ i, i < q1 → ∃ k, k < n ∧ f1 i = (k : Int) ∧ wd (g k) = Q1.getD i [] ∧ wd head <+: wd (g k)) := by
    rw [hq1, hf1]
    exact fun i hi => front_at HG.out HQ1.out hi
  have FL : Hid (∀ i, i + 1 < q1 → Q1.getD i [] < Q1.getD (i + 1) []) := by
    rw [hq1]
    exact fun i hi => front_lt HQ1.out hi
  have FS : Hid (∀ k, k < Q2.length → ∃ j, j < q1 ∧ f1 j = idxW g n (Q2.getD k [])) := by
    intro k hk
    obtain ⟨x, hx1, hx2, hx3, hx4⟩ := front_at HG.out hQ2 hk
    have hm1 : wd (g x) ∈ Q1 := (HQ1.out.mem _).2 ⟨x, hx1, rfl, by
      rw [HHM.out, wd_app] at hx4
      exact (List.prefix_append _ _).trans hx4⟩
    obtain ⟨j, hj, e⟩ := List.mem_iff_getElem.1 hm1
    refine ⟨j, by rw [hq1]; exact hj, ?_⟩
    rw [hf1]
    show idxW g n (Q1.getD j []) = _
    rw [getD_lt hj, e, hx2, HG.out.idx hx1]
  have hr1 := HR1.out
  rw [← hq1, ← hf1] at hr1
  have HR14 := hid ((hr1.alloc (.cells #[.slice A1 q1 c1] 27)).keep (hq1 ▸ hb2))
  have HR2 := hid hrow2
  have hsz34 := hb2.size
  have hcN : w4.cell? ⟨w3.heap.size, 0, none⟩ = some (.slice A1 q1 c1) := by
    rw [hb2.cell (p := ⟨w3.heap.size, 0, none⟩) (by simp)]
    simp [hq1]
  have HRP := hid (HR.out.keep ((HB3.out.trans ((Below.refl _ _).alloc HB3.out.size _)).trans (hb2.mono (by have := HB3.out.size; simp; omega))))
  have HB4 := hid ((HB3.out.trans ((Below.refl _ _).alloc HB3.out.size _)).trans (hb2.mono (by have := HB3.out.size; simp; omega)))
  rw [← hq1]
  clear hrow2 hb2 hQ2 hr1 HR1 hq1 hf1 HR hadd
  go_wp2
  go_loopw [54] (fun i wr => ∃ k : Nat, k ≤ q1 ∧ i = .int .i64 k ∧ ∃ d, wr = w4.drewN d) (fun i _ => q1 - (intOf i).toNat)
  case atStart => exact ⟨0, by omega, rfl, 0, rfl⟩
  case round =>
    obtain ⟨i, hi, rfl, d, rfl⟩ := hrel
    by_cases h : i < q1
    · obtain ⟨b, o, rfl, _, hci⟩ := HR14.out i h
      obtain ⟨kk, hkk, e1, e2, e3⟩ := FA.out i h
      obtain ⟨bp, op, rfl, _, hcp⟩ := HRP.out kk hkk
      rw [e1] at hci
      have hpre : Lib.hasPrefix (g kk).data.toList head.data.toList = true := by
        unfold Lib.hasPrefix
        rw [List.isPrefixOf_iff_prefix]
        exact e3
      have hd0 : decide ((kk : Int) < 0) = false := decide_eq_false (by omega)
      have hdn : decide (n ≤ kk) = false := decide_eq_false (by omega)
      have hkn : (kk : Int) < (n : Int) := by omega
      by_cases h0 : i = 0
      · have hdi : decide (0 < i) = false := decide_eq_false (by omega)
        have hdi2 : decide ((0 : Int) < (i : Int)) = false := decide_eq_false (by omega)
        clear e2 e3 e1 h0
        go_wp2
        go_quiet ((go_at_call 13; exact (Try.strings_HasPrefix _ _ _).mono fun e w' h => ⟨h.1, _, h.2⟩))
        go_wp2
        go_roundw
        case measure => simp [intOf]; omega
        case rel => exact ⟨i + 1, by omega, by go_num, _, rfl⟩
      · obtain ⟨b', o', hbo, _, hcj⟩ := HR14.out (i - 1) (by omega)
        obtain ⟨rfl, rfl⟩ : b = b' ∧ o = o' := by injection hbo with hbo; injection hbo with h1 h2; exact ⟨h1, h2⟩
        obtain ⟨jj, hjj, j1, j2, j3⟩ := FA.out (i - 1) (by omega)
        obtain ⟨bp', op', hbo2, _, hcq⟩ := HRP.out jj hjj
        obtain ⟨rfl, rfl⟩ : bp = bp' ∧ op = op' := by injection hbo2 with hbo2; injection hbo2 with h1 h2; exact ⟨h1, h2⟩
        rw [j1] at hcj
        have hless : Op.bytesLess (g jj).toList (g kk).toList = true := by
          have h3 := FL.out (i - 1) (by omega)
          rw [show i - 1 + 1 = i by omega, ← e2, ← j2] at h3
          rw [bytesLess_eq]
          refine decide_eq_true ?_
          rw [ByteArray.toList_eq, ByteArray.toList_eq]
          exact h3
        have hjn : (jj : Int) < (n : Int) := by omega
        obtain ⟨ip, hip⟩ : ∃ ip, ip = i - 1 := ⟨_, rfl⟩
        have eim : (i : Int) - 1 = (ip : Int) := by omega
        have hwp : IntKind.i64.wrap (ip : Int) = (ip : Int) := IntWalk.i64_in _ (by omega)
        have hpq : (ip : Int) < (q1 : Int) := by omega
        have hpq2 : ip < q1 := by omega
        have hp0 : (0 : Int) ≤ (ip : Int) := by omega
        rw [← hip] at hcj
        have HIP := hid hip
        clear hip
        have hi1 : (0 : Int) < (i : Int) := by omega
        have hi2 : 0 < i := by omega
        have hi3 : decide (0 < i) = true := decide_eq_true hi2
        have hi4 : decide ((0 : Int) < (i : Int)) = true := decide_eq_true hi1
        have hlt' : (i : Int) < (q1 : Int) := by omega
        clear e2 e3 e1 h0 j1 j2 j3 hbo hbo2
        go_wp2
        go_quiet ((go_at_call 13; exact (Try.strings_HasPrefix _ _ _).mono fun e w' h => ⟨h.1, _, h.2⟩))
        go_wp2
        go_roundw
        case measure => simp [intOf]; omega
        case rel => exact ⟨i + 1, by omega, by go_num, _, rfl⟩
    · obtain rfl : i = q1 := by omega
      go_wp2_with fail
      have hcN' : (w4.drewN d).cell? ⟨w3.heap.size, 0, none⟩ = some (.slice A1 i c1) := hcN
      with_reducible refine (fronts_has _ _ _ _ _ _ _ _ _ _ hcN' (HR14.out.drewN d) (by unfold maxLen; omega) (HR2.out.drewN d) (by unfold maxLen; omega) FS.out).mono ?_
      rintro e w5 ⟨rfl, rfl⟩
      go_wp2
      go_ret
      exact ⟨rfl, bl_drewN HB4.out _⟩

set_option maxHeartbeats 1000000 in
set_option maxRecDepth 100000 in
theorem trieFronts_walk (A : Option Addr) (n c : Nat) (g : Nat → ByteArray) (head more : ByteArray) (w : World) (hrow : SRow w A n g) (hc : n ≤ c) (_ : n * 16 ≤ 140737488351232) (h1 : head.size ≤ 140737488351232) (h2 : more.size ≤ 140737488351232) :
    Calls Try.prog 6 #[.slice A n c, .string head, .string more] w fun e w' => e = .returned (.bool true) ∧ Below w.heap.size w w' := by
  by_cases hx : patsErr g n = 0
  · exact fronts_ok A n c g head more w hrow hc h1 h2 hx
  have HR := hid hrow
  have hadd := fun W : World => run_string_add_sum (P := Try.prog) W head more (by omega)
  obtain ⟨hm, hhm⟩ : ∃ hm, hm = head ++ more := ⟨_, rfl⟩
  simp only [← hhm] at hadd
  clear hrow hhm
  go_enter Try.func6, Try.ntmps6
  have HS : Hid (SRow (w.alloc (.cells #[.string ⟨#[98]⟩, .string ⟨#[97, 98]⟩, .string ⟨#[97]⟩] 9)) (some ⟨w.heap.size, 0, none⟩) 3 frontsP) :=
    SRow.lit w [(⟨#[98]⟩ : ByteArray), ⟨#[97, 98]⟩, ⟨#[97]⟩] 9 3 rfl
  go_wp2_with fail
  with_reducible refine (Fronts_ok _ _ 3 3 frontsP ⟨#[]⟩ HS.out (by omega) frontsP_err).mono ?_
  rintro e w1 ⟨Q, A0, c0, hQ, rfl, hrow0, hb0⟩
  obtain rfl := hQ.unique frontsP_q
  have e3 : ([[97], [97, 98], [98]] : List (List UInt8)).length = 3 := rfl
  rw [e3] at hrow0 ⊢
  have HR0 := hid hrow0
  have HB0 := hid (bl_then (bl_new w _) hb0)
  have HL : Hid (IRow (w1.alloc (.cells #[.int .i64 2, .int .i64 1, .int .i64 0] 3)) (some ⟨w1.heap.size, 0, none⟩) 3 (fun k => ([2, 1, 0] : List Int).getD k 0)) :=
    IRow.lit w1 [2, 1, 0] 3 3 w1.heap.size rfl rfl
  clear hrow0 hb0 hQ e3 HS
  go_wp2_with fail
  with_reducible refine (equal_any (n := 3) (m := 3) (HR0.out.alloc _) HL.out (by decide) (by decide)).mono ?_
  rw [frontsP_eq]
  rintro e w2 ⟨rfl, hd⟩
  have HB2 := hid ((bl_then HB0.out (bl_new w1 _)).trans (hd.below _))
  clear hd HR0 HL HB0
  go_wp2_with fail
  with_reducible refine (Fronts_err _ _ _ _ g head (HR.out.keep HB2.out) hc hx).mono ?_
  rintro e w3 ⟨rfl, rfl⟩
  go_wp2_with fail
  with_reducible refine (Fronts_err _ _ _ _ g hm (HR.out.keep (HB2.out.trans ((Below.refl _ _).alloc HB2.out.size _))) hc hx).mono ?_
  rintro e w4 ⟨rfl, rfl⟩
  have hx1 : (patsErr g n != 0) = true := bne_iff_ne.2 hx
  have hx2 : (patsErr g n == patsErr g n) = true := by simp
  go_wp2
  go_ret
  exact ⟨rfl, HB2.out.trans ((Below.refl _ _).alloc HB2.out.size _)⟩
end Go.Proofs.Ythfbilaklllelaa
