/-
The walk of quillkeep.CodeTurned: it returns true for every list of strings.
-/
import Derived.Test.YtpjhmmoncbghdaaCodes
import Derived.Test.YtpjhmmoncbghdaaNewRep
namespace Go.Proofs.Ytpjhmmoncbghdaa
open Go.RowKit

namespace Cm
/-- A change of words that leaves lengths, bits and what is the same. -/
theorem cErr_map {f : Wd → Wd} (h1 : ∀ w, (f w).length = w.length) (h2 : ∀ w, (f w).all isBit = w.all isBit) (h3 : ∀ a b, f a = f b → a = b) (W : List Wd) : cErr (W.map f) = cErr W := by
  have hw : ∀ seen w, wE (seen.map f) (f w) = wE seen w := by
    intro seen w
    unfold wE
    have e1 : f w = [] ↔ w = [] := by
      constructor
      · intro e
        have := h1 w
        rw [e] at this
        exact List.eq_nil_of_length_eq_zero this.symm
      · rintro rfl
        exact List.eq_nil_of_length_eq_zero (h1 [])
    have e2 : f w ∈ seen.map f ↔ w ∈ seen := by
      rw [List.mem_map]
      constructor
      · rintro ⟨v, hv, e⟩; rw [← h3 _ _ e]; exact hv
      · intro hv; exact ⟨w, hv, rfl⟩
    rw [h1, h2]
    exact ite_congr (propext e1) (fun _ => rfl) fun _ => ite_congr rfl (fun _ => rfl) fun _ => ite_congr rfl (fun _ => rfl) fun _ => ite_congr (propext e2) (fun _ => rfl) fun _ => rfl
  have hc : ∀ (r seen : List Wd), cE (seen.map f) (r.map f) = cE seen r := by
    intro r
    induction r with
    | nil => intro seen; rfl
    | cons w r ih =>
      intro seen
      rw [List.map_cons]
      unfold cE
      rw [hw]
      have := ih (seen ++ [w])
      rw [List.map_append] at this
      exact ite_congr rfl (fun _ => rfl) fun _ => this
  unfold cErr
  rw [List.length_map]
  exact ite_congr rfl (fun _ => rfl) fun _ => hc W []
end Cm
theorem back_wd (s : ByteArray) : wd (backS s) = (wd s).reverse := by
  have hb : ∀ (t : ByteArray) (k : Nat) (h : k < (wd t).length), (wd t)[k] = byt t k := by
    intro t k h
    unfold byt wd
    rw [List.getD_eq_getElem?_getD, List.getElem?_eq_getElem (by exact h)]
    rfl
  refine List.ext_getElem (by rw [List.length_reverse, wd_len, wd_len, backS_size]) fun i h1 h2 => ?_
  have hi : i < s.size := by rw [wd_len, backS_size] at h1; exact h1
  rw [List.getElem_reverse, hb, hb, backS_byt hi, wd_len]
def bkL (g : Nat → ByteArray) (i : Nat) : List (List UInt8) := (List.range i).map fun k => wd (backS (g k))
def flL (g : Nat → ByteArray) (i : Nat) : List (List UInt8) := (List.range i).map fun k => wd (flipS (g k))
theorem bkL_succ (g : Nat → ByteArray) (i : Nat) : bkL g (i + 1) = bkL g i ++ [wd (backS (g i))] := by unfold bkL; rw [List.range_succ, List.map_append]; rfl
theorem flL_succ (g : Nat → ByteArray) (i : Nat) : flL g (i + 1) = flL g i ++ [wd (flipS (g i))] := by unfold flL; rw [List.range_succ, List.map_append]; rfl
theorem bkL_len (g : Nat → ByteArray) (i : Nat) : (bkL g i).length = i := by unfold bkL; simp
theorem flL_len (g : Nat → ByteArray) (i : Nat) : (flL g i).length = i := by unfold flL; simp
theorem bkL_is (g : Nat → ByteArray) (n : Nat) : bkL g n = (cws g n).map List.reverse := by
  unfold bkL cws
  rw [List.map_map]
  exact List.map_congr_left fun k _ => back_wd _
theorem flL_is (g : Nat → ByteArray) (n : Nat) : flL g n = (cws g n).map (List.map flip1) := by
  unfold flL cws
  rw [List.map_map]
  exact List.map_congr_left fun k _ => flipS_wd _
theorem rev_bits (w : List UInt8) : w.reverse.all Cm.isBit = w.all Cm.isBit := by rw [Bool.eq_iff_iff, List.all_eq_true, List.all_eq_true]; simp
theorem flip_bits (w : List UInt8) : (w.map flip1).all Cm.isBit = w.all Cm.isBit := by
  have h : ∀ b, Cm.isBit (flip1 b) = Cm.isBit b := by
    intro b
    unfold flip1
    by_cases h1 : b = 48
    · subst h1; decide
    · by_cases h2 : b = 49
      · subst h2; decide
      · rw [if_neg h1, if_neg h2]
  rw [List.all_map]
  congr 1
  funext b
  exact h b
theorem four_new (W : World) : ∀ k, k < 4 → (W.alloc (.cells #[.string ⟨#[48]⟩, .string ⟨#[49]⟩, .string ⟨#[49]⟩, .string ⟨#[48]⟩] 9)).cell? ⟨W.heap.size, k, none⟩ = some (.string (oldNew k)) := by
  intro k hk
  match k, hk with
  | 0, _ => simp [oldNew]
  | 1, _ => simp [oldNew]
  | 2, _ => simp [oldNew]
  | 3, _ => simp [oldNew]
set_option maxRecDepth 100000 in
set_option maxHeartbeats 2000000 in
theorem codeTurned_walk (A : Option Addr) (n c : Nat) (g : Nat → ByteArray) (w : World) (h : SRow w A n g) (hc : n ≤ c) (hs : n * 16 ≤ 140737488351232) (hz : ∀ k, k < n → (g k).size ≤ maxLen) :
    Calls Try.prog 8 #[.slice A n c] w fun e w' => e = .returned (.bool true) ∧ Below w.heap.size w w' := by
  have hn : n ≤ maxLen := by unfold maxLen; omega
  have HZ := hid hz
  have H := hid h
  clear h hz
  go_enter Try.func8, Try.ntmps8
  go_wp2_with fail
  with_reducible refine (codes_ok _).mono ?_
  rintro e w1 ⟨rfl, hb1⟩
  go_wp2
  go_loopw [3, 4, 21] (fun v u y wr => ∃ i : Nat, i ≤ n ∧ y = .int .i64 (i : Int) ∧ Hid (OwnL wr w.heap.size v (bkL g i)) ∧ Hid (OwnL wr w.heap.size u (flL g i)) ∧ Hid (Apart v u) ∧ Hid (Below w.heap.size w wr)) (fun _ _ y _ => n - (intOf y).toNat)
  case atStart => exact ⟨0, by omega, rfl, OwnL.zero _ _, OwnL.zero _ _, fun k hk => (by cases hk), hb1⟩
  case round =>
    clear hb1
    obtain ⟨i, hi, rfl, HM, HN, HA, HB⟩ := hrel
    have hsz := HB.out.size
    by_cases hlt : i < n
    · have hlt' : (i : Int) < (n : Int) := by omega
      obtain ⟨b, o, rfl, hbl, hc0⟩ := H.out i hlt
      have hcell := (HB.out.cell (p := ⟨b, o + i, none⟩) hbl).trans hc0
      have hx := HZ.out i hlt
      have hl1 : ((bkL g i).length + 1) * 16 ≤ 140737488355328 := by rw [bkL_len]; omega
      have hl2 : ((flL g i).length + 1) * 16 ≤ 140737488355328 := by rw [flL_len]; omega
      have HS1 := hid (bkL_succ g i)
      have HS2 := hid (flL_succ g i)
      clear hc0
      generalize g i = x at hcell hx HS1 HS2
      go_wp2_with fail
      with_reducible refine (back_any x _ hx).mono ?_
      rintro e w2 ⟨rfl, hb2⟩
      have HM2 := hid (OwnL.low HM.out hb2)
      have HN2 := hid (OwnL.low HN.out hb2)
      have HB2 := hid (bl_then HB.out hb2)
      have hsz2 := HB2.out.size
      clear HM HN HB hb2 hcell hsz
      go_wp2_with (at_builtin; with_reducible refine app_lst2 rfl _ _ rfl rfl HM2.out _ rfl rfl hsz2 hl1 ?_)
      intro v' w3 hown3 hb3 hg3 hv3
      rw [← HS1.out] at hown3
      have HM3 := hid hown3
      have HN3 := hid (HN2.out.beside hg3 HA.out)
      have HA3 := hid (HA.out.new_l HN2.out.lt_ hv3)
      have HB3 := hid (HB2.out.trans hb3)
      clear hown3 hb3 hg3 hv3 HM2 HN2 HB2 HA hsz2
      go_wp2_with fail
      have hb4 := bl_new w3 (.cells #[.string ⟨#[48]⟩, .string ⟨#[49]⟩, .string ⟨#[49]⟩, .string ⟨#[48]⟩] 9)
      with_reducible refine (newRep_any w3.heap.size _ (four_new w3)).mono ?_
      rintro e w5 ⟨P, rfl, hP, hrep, hb5⟩
      have hb35 := bl_then hb4 hb5
      obtain ⟨G, cp, f, r1, r2, r3, r4, r5, r6⟩ := hrep
      go_wp2_with fail
      with_reducible refine (replace_any P G cp f x _ hx r1 r2 r3 r4 r5 r6).mono ?_
      rintro e w6 ⟨rfl, hg6⟩
      have hb36 : Below w3.heap.size w3 w6 := hb35.grown hg6 hb35.size (fun j hj => by injection hj with hj; have := hb4.size; omega)
      have HM6 := hid (OwnL.low HM3.out hb36)
      have HN6 := hid (OwnL.low HN3.out hb36)
      have HB6 := hid (bl_then HB3.out hb36)
      have hsz6 := HB6.out.size
      clear hb4 hb5 hb35 hb36 hg6 r1 r2 r3 r4 r5 r6 hP HM3 HN3 HB3
      go_wp2_with (at_builtin; with_reducible refine app_lst2 rfl _ _ rfl rfl HN6.out _ rfl rfl hsz6 hl2 ?_)
      intro u' w7 hown7 hb7 hg7 hv7
      rw [← HS2.out] at hown7
      have HN7 := hid hown7
      have HM7 := hid (HM6.out.beside hg7 HA3.out.symm)
      have HA7 := hid ((HA3.out.symm.new_l HM6.out.lt_ hv7).symm)
      have HB7 := hid (HB6.out.trans hb7)
      clear hown7 hb7 hg7 hv7 HM6 HN6 HB6 HA3 hsz6 HS1 HS2
      go_wp2
      go_roundw
      case measure => simp [intOf]; omega
      case rel => exact ⟨i + 1, by omega, by go_num, HM7, HN7, HA7, HB7⟩
    · obtain rfl : n = i := by omega
      have hdl : decide ((n : Int) < (n : Int)) = false := decide_eq_false (by omega)
      obtain ⟨A3, c3, rfl, hc3, hr3⟩ := HM.out.srow
      obtain ⟨A4, c4, rfl, hc4, hr4⟩ := HN.out.srow
      have e3 := cws_of (bkL g n)
      have e4 := cws_of (flL g n)
      rw [bkL_len] at hc3 hr3 e3 ⊢
      rw [flL_len] at hc4 hr4 e4 ⊢
      have R3 := hid hr3
      have R4 := hid hr4
      have H5 := hid (H.out.keep HB.out)
      have HU3 : Hid (Cm.cErr (bkL g n) = Cm.cErr (cws g n)) := by rw [bkL_is]; exact Cm.cErr_map (fun w => List.length_reverse) rev_bits (fun a b e => List.reverse_inj.1 e) _
      have HU4 : Hid (Cm.cErr (flL g n) = Cm.cErr (cws g n)) := by rw [flL_is]; exact Cm.cErr_map (fun w => List.length_map _) flip_bits (fun a b e => (List.map_inj_right flip_inj).1 e) _
      have HV3 : Hid (Cm.UD (bkL g n) ↔ Cm.UD (cws g n)) := by rw [bkL_is]; exact Cm.ud_rev
      have HV4 : Hid (Cm.UD (flL g n) ↔ Cm.UD (cws g n)) := by rw [flL_is]; exact Cm.ud_map flip_inj
      have HF4 : Hid (Cm.PF (flL g n) ↔ Cm.PF (cws g n)) := by rw [flL_is]; exact Cm.pf_map flip_inj
      clear hr3 hr4 HM HN HA
      go_wp2_with fail
      with_reducible refine (Sole_any _ H5.out hc hn).mono ?_
      rintro e w2 ⟨⟨a1, rfl, f1, z1⟩, hb2⟩
      have R3b := hid (R3.out.keep hb2)
      go_wp2_with fail
      with_reducible refine (Sole_any _ R3b.out hc3 hn).mono ?_
      rw [e3]
      rintro e w3 ⟨⟨a2, rfl, f2, z2⟩, hb3⟩
      have R4b := hid ((R4.out.keep hb2).keep hb3)
      go_wp2_with fail
      with_reducible refine (Sole_any _ R4b.out hc4 hn).mono ?_
      rw [e4]
      rintro e w4 ⟨⟨a3, rfl, f3, z3⟩, hb4⟩
      have H5b := hid (((H5.out.keep hb2).keep hb3).keep hb4)
      go_wp2_with fail
      with_reducible refine (Front_any _ H5b.out hc hn).mono ?_
      rintro e w5 ⟨⟨a4, rfl, f4, z4⟩, hb5⟩
      have R4c := hid ((R4b.out.keep hb4).keep hb5)
      go_wp2_with fail
      with_reducible refine (Front_any _ R4c.out hc4 hn).mono ?_
      rw [e4]
      rintro e w6 ⟨⟨a5, rfl, f5, z5⟩, hb6⟩
      have HB6 := hid (bl_then (bl_then (bl_then (bl_then (bl_then HB.out hb2) hb3) hb4) hb5) hb6)
      rw [HU3.out] at f2 z2 ⊢
      rw [HU4.out] at f3 z3 f5 z5 ⊢
      have e12 : a1 = a2 := by
        by_cases he : Cm.cErr (cws g n) = 0
        · rw [Bool.eq_iff_iff, f1 he, f2 he, HV3.out]
        · rw [z1 he, z2 he]
      have e13 : a1 = a3 := by
        by_cases he : Cm.cErr (cws g n) = 0
        · rw [Bool.eq_iff_iff, f1 he, f3 he, HV4.out]
        · rw [z1 he, z3 he]
      have e45 : a4 = a5 := by
        by_cases he : Cm.cErr (cws g n) = 0
        · rw [Bool.eq_iff_iff, f4 he, f5 he, HF4.out]
        · rw [z4 he, z5 he]
      subst e12
      subst e13
      subst e45
      have hee : (Cm.cErr (cws g n) == Cm.cErr (cws g n)) = true := by simp
      have h11 : (a1 == a1) = true := by simp
      have h44 : (a4 == a4) = true := by simp
      clear f1 z1 f2 z2 f3 z3 f4 z4 f5 z5 hb2 hb3 hb4 hb5 hb6 R3 R4 R3b R4b R4c H5 H5b HU3 HU4 HV3 HV4 HF4 e3 e4 HB
      generalize Cm.cErr (cws g n) = er at hee
      go_wp2
      go_ret
      exact ⟨rfl, HB6.out⟩
end Go.Proofs.Ytpjhmmoncbghdaa
