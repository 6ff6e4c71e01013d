
/-
quillkeep.EditPlaces: whatever a text, edits and two numbers: it answers true.
-/
import Derived.Test.YtapjodbaaejldaaEdits
import Derived.Deep.Cut
import Derived.Deep.CutRange
namespace Go.Proofs.Ytapjodbaaejldaa
open Go.RowKit

def placeL : List Es.Ev := [⟨0, 1, ⟨#[]⟩⟩, ⟨3, 0, ⟨#[120, 121]⟩⟩]
theorem place_err : Es.eErr 5 placeL = 0 := by decide +kernel
theorem place_val : Es.plc 3 0 placeL = (4, true) := by decide +kernel
/-- Where bytes go, of a good script. -/
theorem scr_plc {s : ByteArray} {L : List Es.Ev} {G : List Es.Sg} {q : List UInt8} (h : Es.Scr (lst s) L G q) {i j : Nat} (hij : i ≤ j) (hj : j ≤ s.size) :
    ∃ i' j' : Nat, (Es.plc (i : Int) 0 L).1 = (i' : Int) ∧ (Es.plc (j : Int) 0 L).1 = (j' : Int) ∧ i' ≤ j' ∧ j' ≤ (Es.dst G q).length ∧
      ((Es.plc (i : Int) 0 L).2 = true → (Es.plc (j : Int) 0 L).2 = true → i < j → i' < j') ∧
      ((Es.plc (i : Int) 0 L).2 = true → (i = s.size ∧ i' = (Es.dst G q).length) ∨ (i < s.size ∧ i' < (Es.dst G q).length ∧ (Es.dst G q).getD i' 0 = (lst s).getD i 0)) := by
  have hl : (Es.src G q).length = s.size := by rw [h.src_, lst_len]
  obtain ⟨i', a1, a2, a3⟩ := Es.plc_is q G 0 i 0 (by omega)
  obtain ⟨j', b1, b2, _⟩ := Es.plc_is q G 0 j 0 (by omega)
  have hm := Es.plc_mono q G 0 i j 0 hij (by omega)
  rw [h.evs_] at a1 a3 b1 hm
  rw [Nat.zero_add] at a1 a3 b1 hm
  rw [Nat.zero_add, Int.add_zero] at a1 b1
  rw [Nat.zero_add] at hm
  rw [hl, h.src_] at a3
  refine ⟨i', j', a1, b1, ?_, b2, ?_, a3⟩
  · have := hm.1; rw [a1, b1] at this; omega
  · intro c1 c2 c3
    have := hm.2 c1 c2 c3
    rw [a1, b1] at this; omega
set_option maxHeartbeats 4000000 in
set_option maxRecDepth 100000 in
theorem editPlaces_walk (s : ByteArray) (A : Option Addr) (n c : Nat) (g : Nat → Es.Ev) (at0 other0 : Int) (w : World) (sa : s.size ≤ 140737488351232) (h : EvRow w A n g) (hw : ∀ k, k < n → EvWf (g k)) (hnc : n ≤ c) (hc : c ≤ maxLen) :
    Calls Try.prog 6 #[.string s, .slice A n c, .int .i64 at0, .int .i64 other0] w fun e w' => e = .returned (.bool true) ∧ Below w.heap.size w w' := by
  have hnm : n ≤ maxLen := Nat.le_trans hnc hc
  have hsm : s.size ≤ maxLen := by unfold maxLen; omega
  have H := hid h
  have HW := hid hw
  have HNM := hid hnm
  have HSM := hid hsm
  have hwi : ∀ (k0 : Int) (W : World), Calls Try.prog 31 #[.int .i64 k0, .int .i64 ((s.size : Int) + 1)] W fun e w' => e = .returned (.int .i64 ((k0 % ((s.size + 1 : Nat) : Int)).toNat : Int)) ∧ W = w' := fun k0 W => by
    have := within_any k0 (s.size + 1) W (by omega) (by omega)
    rw [show ((s.size + 1 : Nat) : Int) = (s.size : Int) + 1 by omega] at this ⊢
    exact this
  have hlt : ∀ k0 : Int, (k0 % ((s.size + 1 : Nat) : Int)).toNat ≤ s.size := fun k0 => by
    have := Int.emod_lt_of_pos k0 (show (0 : Int) < ((s.size + 1 : Nat) : Int) by omega)
    omega
  have HWI := hid hwi
  obtain ⟨r1, hr1⟩ : ∃ r1, r1 = (at0 % ((s.size + 1 : Nat) : Int)).toNat := ⟨_, rfl⟩
  obtain ⟨r2, hr2⟩ : ∃ r2, r2 = (other0 % ((s.size + 1 : Nat) : Int)).toNat := ⟨_, rfl⟩
  have h1s : r1 ≤ s.size := by rw [hr1]; exact hlt _
  have h2s : r2 ≤ s.size := by rw [hr2]; exact hlt _
  have HR1 := hid hr1
  have HR2 := hid hr2
  obtain ⟨i, hi⟩ : ∃ i, i = min r1 r2 := ⟨_, rfl⟩
  obtain ⟨j, hj⟩ : ∃ j, j = max r1 r2 := ⟨_, rfl⟩
  have hij : i ≤ j := by omega
  have hjs : j ≤ s.size := by omega
  have m1 : min (r1 : Int) (r2 : Int) = (i : Int) := by omega
  have m2 : max (r1 : Int) (r2 : Int) = (j : Int) := by omega
  have m3 : (if r2 < r1 then (r2 : Int) else (r1 : Int)) = (i : Int) := by split <;> omega
  have m4 : (if r1 < r2 then (r2 : Int) else (r1 : Int)) = (j : Int) := by split <;> omega
  have HPR : Hid (EvRow (w.alloc (.cells #[.int .i64 0, .int .i64 1, .string ⟨#[]⟩, .int .i64 3, .int .i64 0, .string ⟨#[120, 121]⟩] 36)) (some ⟨w.heap.size, 0, none⟩) 2 (fun k => placeL.getD k Es.none_)) :=
    (EvRow.two w ⟨0, 1, ⟨#[]⟩⟩ ⟨3, 0, ⟨#[120, 121]⟩⟩ 36 _ rfl).congr fun k hk => by
      match k, hk with
      | 0, _ => rfl
      | 1, _ => rfl
  have HPW : Hid (∀ k, k < 2 → EvWf (placeL.getD k Es.none_)) := fun k hk => by
    match k, hk with
    | 0, _ => exact wf_lit _ (by decide +kernel)
    | 1, _ => exact wf_lit _ (by decide +kernel)
  clear h hw hnm hsm hnc hc hwi hlt hr1 hr2 hi hj
  go_enter Try.func6, Try.ntmps6
  go_wp2_with fail
  with_reducible refine (Place_any (n := 2) 5 3 _ HPR.out HPW.out (by decide) (by decide) (by decide) (by decide) (by decide)).mono ?_
  rintro e w1 ⟨v, bb, x, rfl, hp, hb1⟩
  have hel : el (fun k => placeL.getD k Es.none_) 2 = placeL := el_of placeL
  rw [hel] at hp
  obtain ⟨rfl, rfl, rfl⟩ : x = 0 ∧ v = 4 ∧ bb = true := by
    rcases hp with ⟨p1, p2, _⟩ | ⟨_, p2, _⟩ | ⟨_, _, _, p3, p4, p5⟩
    · rw [place_err] at p2; exact absurd p2 p1
    · exact absurd p2 (by decide)
    · rw [place_val] at p4 p5; exact ⟨p3, p4, p5⟩
  have HB := hid (bl_then (bl_new w _) hb1)
  clear hb1 hp hel HPR HPW
  go_wp2_with fail
  with_reducible refine (edits_ok _).mono ?_
  rintro e w2 ⟨rfl, hb2⟩
  have HB := hid (bl_then HB.out hb2)
  clear hb2
  go_wp2_with fail
  with_reducible refine (Apply_any s _ (H.out.keep HB.out) HW.out HNM.out HSM.out).mono ?_
  rintro e w3 ⟨t, x, rfl, ha, hb2⟩
  have HB := hid (bl_then HB.out hb2)
  have HA := hid ha
  clear hb2 ha
  go_wp2_with fail
  with_reducible refine (HWI.out _ _).mono ?_
  rw [← HR1.out]
  rintro e w4 ⟨rfl, rfl⟩
  go_wp2_with fail
  with_reducible refine (HWI.out _ _).mono ?_
  rw [← HR2.out]
  rintro e w4 ⟨rfl, rfl⟩
  go_wp2_with fail
  with_reducible refine (Place_any (s.size : Int) (i : Int) _ (H.out.keep HB.out) HW.out HNM.out (by omega) (by omega) (by omega) (by omega)).mono ?_
  rintro e w4 ⟨v1, b1, y1, rfl, hp1, hb2⟩
  have HB := hid (bl_then HB.out hb2)
  have HP1 := hid hp1
  clear hb2 hp1
  go_wp2_with fail
  with_reducible refine (Place_any (s.size : Int) (j : Int) _ (H.out.keep HB.out) HW.out HNM.out (by omega) (by omega) (by omega) (by omega)).mono ?_
  rintro e w5 ⟨v2, b2, y2, rfl, hp2, hb2⟩
  have HB := hid (bl_then HB.out hb2)
  have HP2 := hid hp2
  clear hb2 hp2
  by_cases hx : x = 0
  · subst hx
    obtain ⟨G, q, hs, ht⟩ := HA.out.val rfl
    have he := hs.err
    rw [lst_len] at he
    obtain ⟨rfl, hv1, hb1⟩ : y1 = 0 ∧ v1 = (Es.plc (i : Int) 0 (el g n)).1 ∧ b1 = (Es.plc (i : Int) 0 (el g n)).2 := by
      rcases HP1.out with ⟨p1, p2, _⟩ | ⟨_, p2, _⟩ | ⟨_, _, _, p3, p4, p5⟩
      · exact absurd (p2.trans he) p1
      · omega
      · exact ⟨p3, p4, p5⟩
    obtain ⟨rfl, hv2, hb2⟩ : y2 = 0 ∧ v2 = (Es.plc (j : Int) 0 (el g n)).1 ∧ b2 = (Es.plc (j : Int) 0 (el g n)).2 := by
      rcases HP2.out with ⟨p1, p2, _⟩ | ⟨_, p2, _⟩ | ⟨_, _, _, p3, p4, p5⟩
      · exact absurd (p2.trans he) p1
      · omega
      · exact ⟨p3, p4, p5⟩
    obtain ⟨i', j', e1, e2, e3, e4, e5, e6⟩ := scr_plc hs hij hjs
    rw [← hv1] at e1
    rw [← hv2] at e2
    rw [← hb1, ← hb2] at e5
    rw [← hb1] at e6
    have htl : lst t = Es.dst G q := by rw [ht, lst_mk]
    have htz : (Es.dst G q).length = t.size := by rw [← htl, lst_len]
    rw [htz] at e4 e6
    rw [← htl] at e6
    subst e1 e2
    have HE5 := hid e5
    have HE6 := hid e6
    have l1 : decide ((j' : Int) < (i' : Int)) = false := decide_eq_false (by omega)
    have l2 : decide ((t.size : Int) < (j' : Int)) = false := decide_eq_false (by omega)
    have l3 : decide ((i' : Int) < 0) = false := decide_eq_false (by omega)
    clear hs ht he hv1 hv2 hb1 hb2 e5 e6 htl htz HP1 HP2 HA m1 m2 m3 m4
    go_upto_region 11 with fail
    go_cut [135] from 20 (fun s135 wx => s135 = .bool false ∧ Hid (Below w.heap.size w wx))
    case first =>
      go_wp2_with fail
      with_reducible refine (good_ok _ 2 2 _ (by decide) (two_zeros _ _)).mono ?_
      rintro e w6 ⟨rfl, rfl⟩
      have HB := hid (HB.out.alloc HB.out.size (.cells #[.int .i64 0, .int .i64 0] 23))
      cases b1 with
      | false =>
        clear HE5 HE6
        go_wp2
        go_meet
        exact ⟨congrArg Value.bool (by simp; omega), HB.out⟩
      | true =>
        cases b2 with
        | false =>
          clear HE5 HE6
          go_wp2
          go_meet
          exact ⟨congrArg Value.bool (by simp; omega), HB.out⟩
        | true =>
          by_cases hlt : i < j
          · have hv := HE5.out rfl rfl hlt
            have hlt' : decide ((i : Int) < (j : Int)) = true := decide_eq_true (by omega)
            have hv' : decide ((j' : Int) ≤ (i' : Int)) = false := decide_eq_false (by omega)
            clear HE5 HE6
            go_wp2
            go_meet
            exact ⟨congrArg Value.bool (by simp; omega), HB.out⟩
          · have hlt' : decide ((i : Int) < (j : Int)) = false := decide_eq_false (by omega)
            clear HE5 HE6
            go_wp2
            go_meet
            exact ⟨congrArg Value.bool (by simp; omega), HB.out⟩
    case rest =>
      obtain ⟨rfl, HB9⟩ := hcut
      generalize wc = w9 at *
      clear HE5 l1 l2 l3
      cases b1 with
      | false =>
        clear HE6
        go_wp2
        go_quiet (fail)
        go_wp2
        go_ret
        exact ⟨rfl, bl_drewN HB9.out _⟩
      | true =>
        rcases HE6.out rfl with ⟨rfl, rfl⟩ | ⟨q1, q2, q3⟩
        · have z1 : ((s.size : Int) == (s.size : Int)) = true := by simp
          have z2 : ((t.size : Int) == (t.size : Int)) = true := by simp
          clear HE6
          go_wp2
          go_quiet (fail)
          go_wp2
          go_ret
          exact ⟨rfl, bl_drewN HB9.out _⟩
        · have z1 : ((i : Int) == (s.size : Int)) = false := beq_eq_false_iff_ne.2 (by omega)
          have q1' : (i : Int) < (s.size : Int) := by omega
          have q2' : (i' : Int) < (t.size : Int) := by omega
          have i0 : (0 : Int) ≤ (i : Int) := by omega
          have i0' : (0 : Int) ≤ (i' : Int) := by omega
          have heq : ((t[i'].toNat : Int) == (s[i].toNat : Int)) = true := by rw [← byt_eq q2, ← byt_eq q1, show byt t i' = byt s i from q3]; simp
          clear HE6 q3
          go_wp2
          go_quiet (fail)
          go_wp2
          go_ret
          exact ⟨rfl, bl_drewN HB9.out _⟩
  · have he := HA.out.err
    obtain ⟨rfl, rfl⟩ : y1 = x ∧ v1 = 0 := by
      rcases HP1.out with ⟨_, p2, p3, _⟩ | ⟨p1, _⟩ | ⟨p1, _⟩
      · exact ⟨p2.trans he.symm, p3⟩
      · exact absurd (he.trans p1) hx
      · exact absurd (he.trans p1) hx
    obtain ⟨rfl, rfl⟩ : y2 = y1 ∧ v2 = 0 := by
      rcases HP2.out with ⟨_, p2, p3, _⟩ | ⟨p1, _⟩ | ⟨p1, _⟩
      · exact ⟨p2.trans he.symm, p3⟩
      · exact absurd (he.trans p1) hx
      · exact absurd (he.trans p1) hx
    have hxx : (y2 != 0) = true := bne_iff_ne.2 hx
    have hyy : (y2 == y2) = true := by simp
    clear he hx HA HP1 HP2
    go_wp2
    go_ret
    exact ⟨rfl, HB.out⟩
end Go.Proofs.Ytapjodbaaejldaa
