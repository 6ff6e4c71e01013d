
/-
quillkeep.DiffLeast: whatever a text and edits: it answers true.
-/
import Derived.Test.YtejcijlmpiiffaaDiffs
namespace Go.Proofs.Ytejcijlmpiiffaa
open Go.RowKit

set_option maxHeartbeats 2000000 in
theorem diffLeast_walk (s : ByteArray) (A : Option Addr) (n c : Nat) (g : Nat → Es.Ev) (w : World) (sa : s.size ≤ 140737488351232) (h : EvRow w A n g) (hw : ∀ k, k < n → EvWf (g k)) (hnc : n ≤ c) (hc : c ≤ maxLen) :
    Calls Try.prog 5 #[.string s, .slice A n c] w fun e w' => e = .returned (.bool true) ∧ Below w.heap.size w w' := by
  have hnm : n ≤ maxLen := Nat.le_trans hnc hc
  have hsm : s.size ≤ maxLen := by unfold maxLen; omega
  have H := hid h
  have HW := hid hw
  have HNM := hid hnm
  have HSM := hid hsm
  clear h hw hnm hsm hnc hc
  go_enter Try.func5, Try.ntmps5
  go_wp2_with fail
  with_reducible refine (diffs_ok _).mono ?_
  rintro e w1 ⟨rfl, hb1⟩
  have HB := hid hb1
  clear hb1
  go_wp2_with fail
  with_reducible refine (Apply_any s _ (H.out.keep HB.out) HW.out HNM.out HSM.out).mono ?_
  rintro e w2 ⟨t, x, rfl, ha, hb2⟩
  have HB := hid (bl_then HB.out hb2)
  have HA := hid ha
  clear hb2 ha
  by_cases hx : x = 0
  · subst hx
    obtain ⟨G, q, hs, ht⟩ := HA.out.val rfl
    have hst : s.size ≤ 200 ∧ t.size ≤ 200 := by
      have h1 := hs.from_
      have h2 := hs.to_
      rw [lst_len] at h1
      rw [ht, mk_size]
      exact ⟨h1, h2⟩
    have hle := Df.scr_tot hs
    have hdst : Es.dst G q = lst t := by rw [ht, lst_mk]
    rw [hdst] at hle
    obtain ⟨d, hd⟩ : ∃ d, d = Df.df (lst s) (lst t) := ⟨_, rfl⟩
    rw [← hd] at hle
    have hC := fun W => Cost_any s t W
    rw [fv_ok hst.1 hst.2, fe_ok hst.1 hst.2, ← hd] at hC
    have HC := hid hC
    have HLE := hid hle
    have HSC := hid hs
    have HBD := hid (scr_tots hs)
    have hn20 : n ≤ 20 := (scr_small hs).1
    clear hs ht hst hle hdst hd hC HA
    go_wp2_with fail
    with_reducible refine (HC.out _).mono ?_
    rintro e w3 ⟨rfl, hb2⟩
    have HB := hid (bl_then HB.out hb2)
    have HR := hid (H.out.keep HB.out)
    clear hb2 HC
    go_wp2
    go_loopw [9, 32] (fun v x wr => ∃ k : Nat, ∃ z : Int, k ≤ n ∧ x = .int .i64 (k : Int) ∧ v = .int .i64 z ∧ Hid (z = Df.tot (el g k)) ∧ Hid (Below w3.heap.size w3 wr)) (fun _ x _ => n - (intOf x).toNat)
    case atStart => exact ⟨0, 0, by omega, rfl, rfl, rfl, Below.refl _ _⟩
    case round =>
      obtain ⟨k, z, hk, rfl, rfl, HZ, HV⟩ := hrel
      by_cases hkn : k < n
      · obtain ⟨b, o, rfl, hlt, c0, c1, c2⟩ := (HR.out.keep HV.out) k hkn
        have hkn' : (k : Int) < (n : Int) := by omega
        obtain ⟨hb0, hb1, hb2⟩ := HBD.out k hkn
        have hts := tot_small HBD.out k hk
        have hte := tot_el g k
        have hz := HZ.out
        obtain ⟨y, hy⟩ : ∃ y, y = g k := ⟨_, rfl⟩
        rw [← hy] at c0 c1 c2 hb0 hb1 hb2 hte
        obtain ⟨yd, hyd⟩ := Int.eq_ofNat_of_zero_le hb0
        have HZ2 : Hid (z + ((yd : Int) + (y.s.size : Int)) = Df.tot (el g (k + 1))) := by show _ = _; rw [hte, hyd]; omega
        have hzb : 0 ≤ z ∧ z ≤ 50000 := by omega
        rw [hyd] at c1 hb1
        have hw1 : IntKind.i64.wrap ((yd : Int) + (y.s.size : Int)) = (yd : Int) + (y.s.size : Int) := IntWalk.i64_in _ (by omega)
        have hw2 : IntKind.i64.wrap (z + ((yd : Int) + (y.s.size : Int))) = z + ((yd : Int) + (y.s.size : Int)) := IntWalk.i64_in _ (by omega)
        have HB2 := hid (HV.out.alloc HV.out.size (.cells #[.int .i64 y.a, .int .i64 (yd : Int), .string y.s] 33))
        obtain ⟨hca0, hca1, hca2⟩ := ev_new wr ⟨y.a, (yd : Int), y.s⟩ 33
        try simp only at hca0 hca1 hca2
        clear HZ hz hts hte hy hyd hb0
        go_wp2
        go_roundw
        case rel => exact ⟨k + 1, _, by omega, by go_num, rfl, HZ2, HB2⟩
        case measure => simp [intOf]; omega
      · obtain rfl : k = n := by omega
        have hkd : decide ((k : Int) < (k : Int)) = false := decide_eq_false (by omega)
        have hdz : (d : Int) ≤ z := by rw [HZ.out]; exact HLE.out
        have hdz' : decide ((d : Int) ≤ z) = true := decide_eq_true hdz
        have HB5 := hid (bl_then HB.out HV.out)
        clear HZ HV
        go_wp2
        go_ret
        exact ⟨rfl, HB5.out⟩
  · have ht := HA.out.none_ hx
    have hxx : (x != 0) = true := bne_iff_ne.2 hx
    have hxe : (x == 0) = false := beq_eq_false_iff_ne.2 hx
    have hte : t.toList.isEmpty = true := no_bytes (by rw [ht]; rfl)
    clear HA ht hx
    go_wp2
    go_ret
    exact ⟨rfl, HB.out⟩
end Go.Proofs.Ytejcijlmpiiffaa
