
/-
quillkeep.DistNear: whatever two words, a list of words and two numbers: it answers true.
-/
import Derived.Test.YtppaicpjbcjgmaaDists
import Derived.Test.YtppaicpjbcjgmaaEqual
import Derived.Test.YtppaicpjbcjgmaaOpenSS
import Derived.Test.YtppaicpjbcjgmaaNearAny
namespace Go.Proofs.Ytppaicpjbcjgmaa
open Go.RowKit

/-- The three words of the document's example. -/
def abL : List ByteArray := [⟨#[97, 98, 99]⟩, ⟨#[98]⟩, ⟨#[120, 121, 122]⟩]
theorem ex_near : nr ⟨#[97, 98]⟩ (fun k => abL.getD k ByteArray.empty) 1 3 = [0, 1] := by decide +kernel
theorem ab_row (w : World) (t : TypeId) : SRow (w.alloc (.cells (abL.map Value.string).toArray t)) (some ⟨w.heap.size, 0, none⟩) 3 (fun k => abL.getD k ByteArray.empty) := by
  intro k hk
  refine ⟨w.heap.size, 0, rfl, by simp, ?_⟩
  rw [Nat.zero_add]
  have : k < abL.length := hk
  simp [this, List.getD_eq_getElem?_getD]
theorem mem_at {L : List Nat} {x : Nat} (h : x ∈ L) : ∃ k, k < L.length ∧ L.getD k 0 = x := by
  obtain ⟨k, hk, e⟩ := List.mem_iff_getElem.1 h
  exact ⟨k, hk, by rw [List.getD_eq_getElem?_getD, List.getElem?_eq_getElem hk]; exact e⟩
theorem at_mem {L : List Nat} {k : Nat} (h : k < L.length) : L.getD k 0 ∈ L := by
  rw [List.getD_eq_getElem?_getD, List.getElem?_eq_getElem h]; exact List.getElem_mem h
/-- The example's test, and the two lists. -/
theorem eq_zero_one (g : Nat → Int) (h : ∀ k, k < 2 → g k = (([0, 1] : List Nat).getD k 0 : Nat)) : eqB 2 2 g (fun k => ([0, 1] : List Int).getD k 0) = true :=
  eqB_true.2 ⟨rfl, fun k hk => by
    rw [h k hk]
    match k, hk with
    | 0, _ => rfl
    | 1, _ => rfl⟩

set_option maxHeartbeats 2000000 in
theorem distNear_walk (s t : ByteArray) (A : Option Addr) (n c : Nat) (g : Nat → ByteArray) (most0 more0 : Int) (w : World) (_ : s.size ≤ 140737488351232) (_ : t.size ≤ 140737488351232) (h : SRow w A n g) (_ : n ≤ c) (_ : n * 16 ≤ 140737488351232) :
    Calls Try.prog 8 #[.string s, .string t, .slice A n c, .int .i64 most0, .int .i64 more0] w fun e w' => e = .returned (.bool true) ∧ Below w.heap.size w w' := by
  have H := hid h
  clear h
  obtain ⟨most, hmost⟩ : ∃ most, most = (most0 % ((100 : Nat) : Int)).toNat := ⟨_, rfl⟩
  obtain ⟨more, hmore⟩ : ∃ more, more = (more0 % ((100 : Nat) : Int)).toNat := ⟨_, rfl⟩
  have hm1 : most < 100 := by
    have := Int.emod_lt_of_pos most0 (show (0 : Int) < ((100 : Nat) : Int) by decide)
    omega
  have hm2 : more < 100 := by
    have := Int.emod_lt_of_pos more0 (show (0 : Int) < ((100 : Nat) : Int) by decide)
    omega
  have HWI1 : ∀ W : World, Calls Try.prog 22 #[.int .i64 most0, .int .i64 100] W fun e w' => e = .returned (.int .i64 (most : Nat)) ∧ W = w' := fun W => by
    have := within_any most0 100 W (by decide) (by decide)
    rw [← hmost] at this
    exact this
  have HWI2 : ∀ W : World, Calls Try.prog 22 #[.int .i64 more0, .int .i64 100] W fun e w' => e = .returned (.int .i64 (more : Nat)) ∧ W = w' := fun W => by
    have := within_any more0 100 W (by decide) (by decide)
    rw [← hmore] at this
    exact this
  have HW1 := hid HWI1
  have HW2 := hid HWI2
  clear hmost hmore HWI1 HWI2
  obtain ⟨d, hd⟩ : ∃ d, d = dv s t := ⟨_, rfl⟩
  obtain ⟨x, hx⟩ : ∃ x, x = de s t := ⟨_, rfl⟩
  have hd5 : d ≤ 200 := by rw [hd]; exact dv_le s t
  have HC : Hid ((x = 2 ∧ d = 0) ∨ (x = 0 ∧ s.size ≤ 200 ∧ t.size ≤ 200 ∧ d = Lev.lv (lst s) (lst t))) := by
    by_cases hst : s.size ≤ 200 ∧ t.size ≤ 200
    · exact .inr ⟨by rw [hx]; exact de_ok hst.1 hst.2, hst.1, hst.2, by rw [hd]; exact dv_ok hst.1 hst.2⟩
    · exact .inl ⟨by rw [hx]; exact de_bad hst, by rw [hd]; exact dv_bad hst⟩
  have HD := hid hd
  have HX := hid hx
  clear hd hx
  have g1 : IntKind.i64.wrap ((most : Int) + (more : Int)) = (most : Int) + (more : Int) := IntWalk.i64_in _ (by omega)
  have g2 : IntKind.i64.wrap ((most : Int) + (d : Int)) = (most : Int) + (d : Int) := IntWalk.i64_in _ (by omega)
  have HR0 : Hid (SRow (w.alloc (.cells #[.string ⟨#[97, 98, 99]⟩, .string ⟨#[98]⟩, .string ⟨#[120, 121, 122]⟩] 9)) (some ⟨w.heap.size, 0, none⟩) 3 (fun k => abL.getD k ByteArray.empty)) := ab_row w 9
  have HB0 := hid (bl_new w (.cells #[.string ⟨#[97, 98, 99]⟩, .string ⟨#[98]⟩, .string ⟨#[120, 121, 122]⟩] 9))
  go_enter Try.func8, Try.ntmps8
  go_wp2_with fail
  with_reducible refine (Near_ok (n := 3) ⟨#[97, 98]⟩ 1 _ HR0.out (by decide) (by decide) (by decide)).mono ?_
  rintro e w1 ⟨B, q, he, hr, hb1⟩
  rw [ex_near] at he hr
  subst he
  have HB := hid (bl_then HB0.out hb1)
  have HE : Hid (true = eqB 2 2 (fun k => (([0, 1] : List Nat).getD k 0 : Nat)) (fun k => ([0, 1] : List Int).getD k 0)) := (eq_zero_one _ fun _ _ => rfl).symm
  have HRA := hid (hr.keep (bl_new w1 (.cells #[.int .i64 0, .int .i64 1] 3)))
  have HRL : Hid (IRow (w1.alloc (.cells #[.int .i64 0, .int .i64 1] 3)) (some ⟨w1.heap.size, 0, none⟩) 2 (fun k => ([0, 1] : List Int).getD k 0)) := IRow.lit w1 [0, 1] 3 2 _ rfl rfl
  have HB := hid (bl_then HB.out (bl_new w1 (.cells #[.int .i64 0, .int .i64 1] 3)))
  clear hb1 hr HR0 HB0
  have hlen : ([0, 1] : List Nat).length = 2 := rfl
  rw [hlen] at HRA ⊢
  go_wp2_with fail
  with_reducible refine (equal_any HRA.out HRL.out (by decide) (by decide)).mono ?_
  rintro e w2 ⟨he, hd2⟩
  rw [← HE.out] at he
  subst he
  have HB := hid (HB.out.trans (hd2.below _))
  clear hd2 HRA HRL HE
  go_wp2_with fail
  with_reducible refine (dists_ok _).mono ?_
  rintro e w3 ⟨rfl, hb2⟩
  have HB := hid (bl_then HB.out hb2)
  clear hb2
  go_wp2_with fail
  with_reducible refine (Of_any s t _).mono ?_
  rintro e w4 ⟨he, hb2⟩
  rw [← HD.out, ← HX.out] at he
  subst he
  have HB := hid (bl_then HB.out hb2)
  clear hb2
  go_wp2_with fail
  with_reducible refine (HW1.out _).mono ?_
  rintro e w5 ⟨rfl, rfl⟩
  go_wp2_with fail
  with_reducible refine (HW2.out _).mono ?_
  rintro e w5 ⟨rfl, rfl⟩
  go_wp2_with fail
  with_reducible refine (Near_any s (most : Int) _ (H.out.keep HB.out)).mono ?_
  rintro e w5 ⟨A1, c1, L1, x1, rfl, hn1, hr1, hb2⟩
  have HB := hid (bl_then HB.out hb2)
  have HN1 := hid hn1
  have HR1 := hid hr1
  clear hb2 hn1 hr1
  go_wp2_with fail
  with_reducible refine (Near_any s ((most : Int) + (more : Int)) _ (H.out.keep HB.out)).mono ?_
  rintro e w6 ⟨A2, c2, L2, x2, rfl, hn1, hr1, hb2⟩
  have HB := hid (bl_then HB.out hb2)
  have HN2 := hid hn1
  have HR1 := hid (HR1.out.keep hb2)
  have HR2 := hid hr1
  clear hb2 hn1 hr1
  go_wp2_with fail
  with_reducible refine (Near_any t ((most : Int) + (d : Int)) _ (H.out.keep HB.out)).mono ?_
  rintro e w7 ⟨A3, c3, L3, x3, rfl, hn1, hr1, hb2⟩
  have HB := hid (bl_then HB.out hb2)
  have HN3 := hid hn1
  have HR1 := hid (HR1.out.keep hb2)
  have HR2 := hid (HR2.out.keep hb2)
  have HR3 := hid hr1
  clear hb2 hn1 hr1
  rcases HC.out with ⟨rfl, rfl⟩ | ⟨rfl, hs, ht, hdl⟩
  · go_wp2
    go_ret
    exact ⟨rfl, HB.out⟩
  · rcases HN1.out with ⟨_, _, rfl⟩ | ⟨hgood, hL1, rfl⟩
    · clear hdl
      go_wp2
      go_ret
      exact ⟨rfl, HB.out⟩
    · have hg1 := near_bad_or hgood
      have hgt : ¬ NearBad t n g := by
        rintro (h | h | ⟨k, h1, h2⟩)
        · omega
        · have := hg1.2.1; omega
        · have := hg1.2.2 k h1; omega
      have h2 : L2 = nr s g ((most : Int) + (more : Int)) n ∧ x2 = 0 := by
        rcases HN2.out with ⟨hb, _⟩ | ⟨_, h1, h2⟩
        · exact absurd hb hgood
        · exact ⟨h1, h2⟩
      have h3 : L3 = nr t g ((most : Int) + (d : Int)) n ∧ x3 = 0 := by
        rcases HN3.out with ⟨hb, _⟩ | ⟨_, h1, h2⟩
        · exact absurd hb hgt
        · exact ⟨h1, h2⟩
      have HI2 : Hid (∀ k, k < L1.length → ∃ j, j < L2.length ∧ ((L2.getD j 0 : Nat) : Int) = ((L1.getD k 0 : Nat) : Int)) := fun k hk => by
        have hm := at_mem hk
        rw [hL1, mem_nr, ← hL1] at hm
        have : L1.getD k 0 ∈ L2 := by rw [h2.1, mem_nr]; exact ⟨hm.1, by omega⟩
        obtain ⟨j, hj, e⟩ := mem_at this
        exact ⟨j, hj, by rw [e]⟩
      have HI3 : Hid (∀ k, k < L1.length → ∃ j, j < L3.length ∧ ((L3.getD j 0 : Nat) : Int) = ((L1.getD k 0 : Nat) : Int)) := fun k hk => by
        have hm := at_mem hk
        rw [hL1, mem_nr, ← hL1] at hm
        have : L1.getD k 0 ∈ L3 := by
          rw [h3.1, mem_nr]
          refine ⟨hm.1, ?_⟩
          have := Lev.lv_tri (lst t) (lst s) (lst (g (L1.getD k 0)))
          rw [Lev.lv_comm (lst t) (lst s), ← hdl] at this
          omega
        obtain ⟨j, hj, e⟩ := mem_at this
        exact ⟨j, hj, by rw [e]⟩
      obtain ⟨hL2, rfl⟩ := h2
      obtain ⟨hL3, rfl⟩ := h3
      clear hL2 hL3
      have hl1 := HN1.out.len
      have hl2 : L2.length ≤ maxLen := Nat.le_trans HN2.out.len (by decide)
      have hl3 : L3.length ≤ maxLen := Nat.le_trans HN3.out.len (by decide)
      have HL2 := hid hl2
      have HL3 := hid hl3
      clear hg1 hgt hgood hL1 hdl hl2 hl3 HC HN1 HN2 HN3
      go_wp2
      go_loop [89] (fun i => ∃ k : Nat, k ≤ L1.length ∧ i = .int .i64 k) (fun i => L1.length - (intOf i).toNat)
      case atStart => exact ⟨0, by omega, rfl⟩
      case round =>
        obtain ⟨k, hk, rfl⟩ := hrel
        by_cases hkn : k < L1.length
        · obtain ⟨b, o, rfl, hlt, hc⟩ := HR1.out k hkn
          have hkn' : (k : Int) < (L1.length : Int) := by omega
          obtain ⟨v, hv⟩ : ∃ v, v = L1.getD k 0 := ⟨_, rfl⟩
          have hi2 := HI2.out k hkn
          have hi3 := HI3.out k hkn
          try simp only at hc
          rw [← hv] at hc hi2 hi3
          have HV2 := hid hi2
          have HV3 := hid hi3
          clear hv hi2 hi3
          go_wp2_with fail
          with_reducible refine (contains_yes HR2.out HL2.out HV2.out).mono ?_
          rintro e w8 ⟨rfl, rfl⟩
          go_wp2_with fail
          with_reducible refine (contains_yes HR3.out HL3.out HV3.out).mono ?_
          rintro e w8 ⟨rfl, rfl⟩
          go_wp2
          go_round
          case rel => exact ⟨k + 1, by omega, by go_num⟩
          case measure => simp [intOf]; omega
        · obtain rfl : k = L1.length := by omega
          have hd : decide ((L1.length : Int) < (L1.length : Int)) = false := decide_eq_false (by omega)
          go_wp2_with fail
          with_reducible refine (good_ok _ 2 2 _ (by omega) (two_zeros _ _)).mono ?_
          rintro e w8 ⟨rfl, rfl⟩
          go_wp2
          go_ret
          exact ⟨rfl, bl_then HB.out (bl_new _ _)⟩
end Go.Proofs.Ytppaicpjbcjgmaa
