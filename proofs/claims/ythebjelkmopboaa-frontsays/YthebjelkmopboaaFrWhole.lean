
/-
The contract of front.Whole.
-/
import Derived.Test.YthebjelkmopboaaRunRow
import Derived.Test.YthebjelkmopboaaBRepeat
namespace Go.Proofs.Ythebjelkmopboaa
open Go.RowKit

/-- The byte of the run ahead. -/
def pvB (h : Nat → Rm.R) (k : Nat) : Option UInt8 := if k = 0 then none else some (h (k - 1)).1
theorem pvB_zero (h : Nat → Rm.R) : pvB h 0 = none := rfl
theorem pvB_succ (h : Nat → Rm.R) (k : Nat) : pvB h (k + 1) = some (h k).1 := by unfold pvB; rw [if_neg (by omega), Nat.add_sub_cancel]
/-- What Whole answers. -/
def WholeIs (h : Nat → Rm.R) (n : Nat) (w : World) (e : Ending) (w' : World) : Prop :=
  e = .returned (.tuple #[.string (mkS (Rm.whole (rs h n)).2), .int .i64 ((Rm.whole (rs h n)).1 : Nat)]) ∧ Below w.heap.size w w'
theorem rep_getD (b : UInt8) (n j : Nat) (hj : j < n) : (List.replicate n b).getD j 0 = b := by
  rw [List.getD_eq_getElem?_getD, List.getElem?_replicate, if_pos hj]
  rfl
set_option maxHeartbeats 2000000 in
set_option maxRecDepth 100000 in
theorem FWhole_any {A : Option Addr} {n c : Nat} {h : Nat → Rm.R} (w : World) (hr : RRow w A n h) (hnn : n ≤ maxLen) :
    Calls Try.prog 12 #[.slice A n c] w (WholeIs h n w) := by
  unfold maxLen at hnn
  unfold WholeIs
  obtain ⟨J, hJ⟩ : ∃ J, J = Rm.whole (rs h n) := ⟨_, rfl⟩
  have H := hid hr
  have HJ : Hid (Rm.wl (pvB h 0) [] ((rs h n).drop 0) = J) := hJ.symm
  rw [← hJ]
  clear hr hJ
  go_enter Try.func12, Try.ntmps12
  go_wp2
  go_loopw [9, 4] (fun x v wr => ∃ k : Nat, ∃ vv T, vv = v ∧ k ≤ n ∧ T.length ≤ 200 ∧ x = .int .i64 (k : Int) ∧ Hid (Rm.wl (pvB h k) T ((rs h n).drop k) = J) ∧ Hid (OwnT wr w.heap.size vv T) ∧ Hid (Below w.heap.size w wr)) (fun x _ _ => n - (intOf x).toNat)
  case atStart => exact ⟨0, _, [], rfl, by omega, by simp, rfl, HJ, OwnT.zero _ _, Below.refl _ _⟩
  case round =>
    clear HJ
    obtain ⟨k, vv, T, rfl, hk, hT, rfl, HJ, HO, HB⟩ := hrel
    by_cases hlt : k < n
    · have hlt' : (k : Int) < (n : Int) := by omega
      obtain ⟨b0, o0, rfl, hbl, hc0, hd0⟩ := H.out k hlt
      have hck := (HB.out.cell (p := ⟨b0, o0 + k * 2, none⟩) hbl).trans hc0
      have hdk := (HB.out.cell (p := ⟨b0, o0 + k * 2 + 1, none⟩) hbl).trans hd0
      have hgs : w.heap.size ≤ wr.heap.size := HB.out.size
      obtain ⟨b, hb⟩ : ∃ b, b = (h k).1 := ⟨_, rfl⟩
      obtain ⟨z, hz⟩ : ∃ z, z = (h k).2 := ⟨_, rfl⟩
      rw [← hb] at hck
      rw [← hz] at hdk
      have HD : Hid (Rm.wl (pvB h k) T ((rs h n).drop k) = if z < 1 then (1, []) else if pvB h k = some b then (3, []) else if 200 - (T.length : Int) < z then (2, []) else Rm.wl (pvB h (k + 1)) (T ++ List.replicate z.toNat b) ((rs h n).drop (k + 1))) := by
        unfold Hid
        rw [rs_drop hlt, show h k = ((h k).1, (h k).2) from rfl, Rm.wl_cons, ← hb, ← hz, pvB_succ, ← hb]
      have HB1 : Hid (Below w.heap.size w (wr.alloc (.cells #[.int .u8 (b.toNat : Int), .int .i64 z] 39))) := HB.out.alloc HB.out.size _
      have HO1 : Hid (OwnT (wr.alloc (.cells #[.int .u8 (b.toNat : Int), .int .i64 z] 39)) w.heap.size vv T) := HO.out.alloc _
      have hca0 : (wr.alloc (.cells #[.int .u8 (b.toNat : Int), .int .i64 z] 39)).cell? ⟨wr.heap.size, 0, none⟩ = some (.int .u8 (b.toNat : Int)) := by rw [cell_of_row _ _ _ _ _ _ (heap_alloc_new wr _)]; rfl
      have hca1 : (wr.alloc (.cells #[.int .u8 (b.toNat : Int), .int .i64 z] 39)).cell? ⟨wr.heap.size, 1, none⟩ = some (.int .i64 z) := by rw [cell_of_row _ _ _ _ _ _ (heap_alloc_new wr _)]; rfl
      obtain ⟨A5, c5, hv⟩ := HO.out.shape
      subst hv
      clear hc0 hd0 hb hz
      by_cases h1 : z < 1
      · have hdz : decide (z < 1) = true := decide_eq_true h1
        have HE : Hid (J = (1, [])) := by have := HJ.out; rw [HD.out, if_pos h1] at this; exact this.symm
        clear HJ HD HO HO1 hca0 hca1
        go_wp2
        go_ret2
        rw [HE.out]
        exact ⟨rfl, HB1.out⟩
      · have hdz : decide (z < 1) = false := decide_eq_false h1
        have HD1 : Hid (J = if pvB h k = some b then (3, []) else if 200 - (T.length : Int) < z then (2, []) else Rm.wl (pvB h (k + 1)) (T ++ List.replicate z.toNat b) ((rs h n).drop (k + 1))) := by
          have := HJ.out; rw [HD.out, if_neg h1] at this; exact this.symm
        have eTl : IntKind.i64.wrap (200 - (T.length : Int)) = 200 - (T.length : Int) := IntWalk.i64_in _ (by omega)
        clear HJ HD
        by_cases h0 : k = 0
        · have hdk0 : decide ((0 : Int) < (k : Int)) = false := decide_eq_false (by omega)
          have hnk : ¬ 0 < k := by omega
          have HP : Hid (pvB h k ≠ some b) := by unfold Hid; rw [h0, pvB_zero]; intro h; cases h
          clear h0
          have HD2 : Hid (J = if 200 - (T.length : Int) < z then (2, []) else Rm.wl (pvB h (k + 1)) (T ++ List.replicate z.toNat b) ((rs h n).drop (k + 1))) := by unfold Hid; rw [HD1.out, if_neg HP.out]
          clear HD1 HP
          go_wp2
          go_quiet (fail)
          generalize hwd : (wr.alloc (.cells #[.int .u8 (b.toNat : Int), .int .i64 z] 39)).drewN _ = wd
          have hcb0 : wd.cell? ⟨wr.heap.size, 0, none⟩ = some (.int .u8 (b.toNat : Int)) := by rw [← hwd]; exact hca0
          have hcb1 : wd.cell? ⟨wr.heap.size, 1, none⟩ = some (.int .i64 z) := by rw [← hwd]; exact hca1
          have HOd : Hid (OwnT wd w.heap.size (.slice A5 T.length c5) T) := by rw [← hwd]; exact HO1.out.drewN _
          have HBd : Hid (Below w.heap.size w wd) := by rw [← hwd]; exact bl_drewN HB1.out _
          have hgd : w.heap.size ≤ wd.heap.size := HBd.out.size
          clear hwd HO HO1 HB HB1 hca0 hca1 hck hdk
          by_cases hf : 200 - (T.length : Int) < z
          · have hdf : decide (200 - (T.length : Int) < z) = true := decide_eq_true hf
            have HE : Hid (J = (2, [])) := by unfold Hid; rw [HD2.out, if_pos hf]
            clear HD2 HOd
            go_wp2
            go_ret2
            rw [HE.out]
            exact ⟨rfl, HBd.out⟩
          · have hdf : decide (200 - (T.length : Int) < z) = false := decide_eq_false hf
            obtain ⟨m, rfl⟩ : ∃ m : Nat, z = (m : Int) := ⟨z.toNat, by omega⟩
            have HJn : Hid (Rm.wl (pvB h (k + 1)) (T ++ List.replicate m b) ((rs h n).drop (k + 1)) = J) := by
              have := HD2.out
              rw [if_neg hf] at this
              exact this.symm
            have hm1 : 1 ≤ m := by omega
            have hm2 : m ≤ 200 := by omega
            have hTn : (T ++ List.replicate m b).length ≤ 200 := by rw [List.length_append, List.length_replicate]; omega
            have HLn : Hid (T.length + (List.replicate m b).length < 1000000) := by unfold Hid; rw [List.length_replicate]; omega
            have hone : (wd.alloc (.cells #[.int .u8 (b.toNat : Int)] 5)).cell? ⟨wd.heap.size, 0, none⟩ = some (bv b) := by rw [cell_of_row _ _ _ _ _ _ (heap_alloc_new wd _)]; rfl
            have hlt1 := World.block_lt_of_cell? _ _ hcb1
            have hcc1 : (wd.alloc (.cells #[.int .u8 (b.toNat : Int)] 5)).cell? ⟨wr.heap.size, 1, none⟩ = some (.int .i64 (m : Int)) := ((bl_new wd (.cells #[.int .u8 (b.toNat : Int)] 5)).cell (p := ⟨wr.heap.size, 1, none⟩) hlt1).trans hcb1
            have hrep := brepeat_any (wd.alloc (.cells #[.int .u8 (b.toNat : Int)] 5)) hone hm1 hm2
            have HOe : Hid (OwnT (wd.alloc (.cells #[.int .u8 (b.toNat : Int)] 5)) w.heap.size (.slice A5 T.length c5) T) := HOd.out.alloc _
            have HBe : Hid (Below w.heap.size w (wd.alloc (.cells #[.int .u8 (b.toNat : Int)] 5))) := HBd.out.alloc HBd.out.size _
            have HHR := hid hrep
            clear HD2 hf HOd HBd hone hrep
            go_wp2_with fail
            with_reducible refine HHR.out.mono ?_
            rintro e w6 ⟨⟨G, rfl, hcell⟩, hb6⟩
            have HC6 : Hid (∀ j, j < m → w6.cell? (Addr.add ⟨G, 0, none⟩ j) = some (bv ((List.replicate m b).getD j 0))) := by
              intro j hj
              rw [rep_getD b m j hj, Addr.add_lit, Nat.zero_add]
              exact hcell j hj
            have HO6 := hid (HOe.out.low hb6)
            have HB6 : Hid (Below w.heap.size w w6) := hid (HBe.out.trans (hb6.mono (by simpa using Nat.le_trans hgd (Nat.le_succ _))))
            have hg6 : w.heap.size ≤ w6.heap.size := HB6.out.size
            clear hcell hb6 HOe HBe HHR hcc1 hcb0 hcb1
            go_wp2_with (first
              | (at_builtin; with_reducible refine app_many (M := List.replicate m b) (v := .slice A5 T.length c5) rfl _ _ rfl rfl HO6.out ⟨G, 0, none⟩ m m rfl (List.length_replicate ..) HC6.out hg6 HLn.out ?_; intro v7 w7 hown7 hgr7; have HO7 := hid hown7; have HB7 : Hid (Below w.heap.size w w7) := hid (HB6.out.grown hgr7 hg6 (fun k hk => (HO6.out.lt_ k hk).1)); clear hown7 hgr7 HC6 HO6 HB6)
              | go_in)
            go_roundw
            case measure => simp [intOf]; omega
            case rel => exact ⟨k + 1, _, _, rfl, by omega, hTn, by go_num, HJn, HO7, HB7⟩
        · obtain ⟨j, hj⟩ : ∃ j, k = j + 1 := ⟨k - 1, by omega⟩
          have ej : (k : Int) - 1 = (j : Int) := by omega
          have ejw : IntKind.i64.wrap (j : Int) = (j : Int) := IntWalk.i64_in _ (by omega)
          have hjn : j < n := by omega
          have hjn' : (j : Int) < (n : Int) := by omega
          have hj0 : (0 : Int) ≤ (j : Int) := by omega
          have hdk0 : decide ((0 : Int) < (k : Int)) = true := decide_eq_true (by omega)
          have hk0 : 0 < k := by omega
          have hk0' : (0 : Int) < (k : Int) := by omega
          have hpv : pvB h k = some (h j).1 := by rw [hj, pvB_succ]
          obtain ⟨b1, o1, hA, hbl1, hc1, _⟩ := H.out j hjn
          injection hA with hA
          injection hA with hA1 hA2
          subst hA1; subst hA2
          have hcj := (HB1.out.cell (p := ⟨b0, o0 + j * 2, none⟩) hbl).trans hc1
          obtain ⟨b2, hb2⟩ : ∃ b2, b2 = (h j).1 := ⟨_, rfl⟩
          rw [← hb2] at hcj hpv
          have HPV := hid hpv
          clear hc1 hb2 hpv hj hbl1 h0
          by_cases he : b = b2
          · have heq : ((b.toNat : Int) == (b2.toNat : Int)) = true := by rw [he]; simp
            have HE : Hid (J = (3, [])) := by unfold Hid; rw [HD1.out, if_pos (by rw [HPV.out, he])]
            clear HD1 HPV he HO HO1
            go_wp2
            go_quiet (fail)
            go_wp2
            go_ret2
            rw [HE.out]
            exact ⟨rfl, bl_drewN HB1.out _⟩
          · have heq : ((b.toNat : Int) == (b2.toNat : Int)) = false := (byte_ne he).2
            have HP : Hid (pvB h k ≠ some b) := by unfold Hid; rw [HPV.out]; intro h; injection h with h; exact he h.symm
            clear HPV he
            have HD2 : Hid (J = if 200 - (T.length : Int) < z then (2, []) else Rm.wl (pvB h (k + 1)) (T ++ List.replicate z.toNat b) ((rs h n).drop (k + 1))) := by unfold Hid; rw [HD1.out, if_neg HP.out]
            clear HD1 HP
            go_wp2
            go_quiet (fail)
            generalize hwd : (wr.alloc (.cells #[.int .u8 (b.toNat : Int), .int .i64 z] 39)).drewN _ = wd
            have hcb0 : wd.cell? ⟨wr.heap.size, 0, none⟩ = some (.int .u8 (b.toNat : Int)) := by rw [← hwd]; exact hca0
            have hcb1 : wd.cell? ⟨wr.heap.size, 1, none⟩ = some (.int .i64 z) := by rw [← hwd]; exact hca1
            have HOd : Hid (OwnT wd w.heap.size (.slice A5 T.length c5) T) := by rw [← hwd]; exact HO1.out.drewN _
            have HBd : Hid (Below w.heap.size w wd) := by rw [← hwd]; exact bl_drewN HB1.out _
            have hgd : w.heap.size ≤ wd.heap.size := HBd.out.size
            clear hwd HO HO1 HB HB1 hca0 hca1 hck hdk
            by_cases hf : 200 - (T.length : Int) < z
            · have hdf : decide (200 - (T.length : Int) < z) = true := decide_eq_true hf
              have HE : Hid (J = (2, [])) := by unfold Hid; rw [HD2.out, if_pos hf]
              clear HD2 HOd
              go_wp2
              go_ret2
              rw [HE.out]
              exact ⟨rfl, HBd.out⟩
            · have hdf : decide (200 - (T.length : Int) < z) = false := decide_eq_false hf
              obtain ⟨m, rfl⟩ : ∃ m : Nat, z = (m : Int) := ⟨z.toNat, by omega⟩
              have HJn : Hid (Rm.wl (pvB h (k + 1)) (T ++ List.replicate m b) ((rs h n).drop (k + 1)) = J) := by
                have := HD2.out
                rw [if_neg hf] at this
                exact this.symm
              have hm1 : 1 ≤ m := by omega
              have hm2 : m ≤ 200 := by omega
              have hTn : (T ++ List.replicate m b).length ≤ 200 := by rw [List.length_append, List.length_replicate]; omega
              have HLn : Hid (T.length + (List.replicate m b).length < 1000000) := by unfold Hid; rw [List.length_replicate]; omega
              have hone : (wd.alloc (.cells #[.int .u8 (b.toNat : Int)] 5)).cell? ⟨wd.heap.size, 0, none⟩ = some (bv b) := by rw [cell_of_row _ _ _ _ _ _ (heap_alloc_new wd _)]; rfl
              have hlt1 := World.block_lt_of_cell? _ _ hcb1
              have hcc1 : (wd.alloc (.cells #[.int .u8 (b.toNat : Int)] 5)).cell? ⟨wr.heap.size, 1, none⟩ = some (.int .i64 (m : Int)) := ((bl_new wd (.cells #[.int .u8 (b.toNat : Int)] 5)).cell (p := ⟨wr.heap.size, 1, none⟩) hlt1).trans hcb1
              have hrep := brepeat_any (wd.alloc (.cells #[.int .u8 (b.toNat : Int)] 5)) hone hm1 hm2
              have HOe : Hid (OwnT (wd.alloc (.cells #[.int .u8 (b.toNat : Int)] 5)) w.heap.size (.slice A5 T.length c5) T) := HOd.out.alloc _
              have HBe : Hid (Below w.heap.size w (wd.alloc (.cells #[.int .u8 (b.toNat : Int)] 5))) := HBd.out.alloc HBd.out.size _
              have HHR := hid hrep
              clear HD2 hf HOd HBd hone hrep
              go_wp2_with fail
              with_reducible refine HHR.out.mono ?_
              rintro e w6 ⟨⟨G, rfl, hcell⟩, hb6⟩
              have HC6 : Hid (∀ j, j < m → w6.cell? (Addr.add ⟨G, 0, none⟩ j) = some (bv ((List.replicate m b).getD j 0))) := by
                intro j hj
                rw [rep_getD b m j hj, Addr.add_lit, Nat.zero_add]
                exact hcell j hj
              have HO6 := hid (HOe.out.low hb6)
              have HB6 : Hid (Below w.heap.size w w6) := hid (HBe.out.trans (hb6.mono (by simpa using Nat.le_trans hgd (Nat.le_succ _))))
              have hg6 : w.heap.size ≤ w6.heap.size := HB6.out.size
              clear hcell hb6 HOe HBe HHR hcc1 hcb0 hcb1
              go_wp2_with (first
                | (at_builtin; with_reducible refine app_many (M := List.replicate m b) (v := .slice A5 T.length c5) rfl _ _ rfl rfl HO6.out ⟨G, 0, none⟩ m m rfl (List.length_replicate ..) HC6.out hg6 HLn.out ?_; intro v7 w7 hown7 hgr7; have HO7 := hid hown7; have HB7 : Hid (Below w.heap.size w w7) := hid (HB6.out.grown hgr7 hg6 (fun k hk => (HO6.out.lt_ k hk).1)); clear hown7 hgr7 HC6 HO6 HB6)
                | go_in)
              go_roundw
              case measure => simp [intOf]; omega
              case rel => exact ⟨k + 1, _, _, rfl, by omega, hTn, by go_num, HJn, HO7, HB7⟩
    · have hd : decide ((k : Int) < (n : Int)) = false := decide_eq_false (by omega)
      obtain rfl : n = k := by omega
      have hE : J = (0, T) := by
        have := HJ.out
        rw [rs_end] at this
        exact this.symm
      have HE := hid hE
      have hcv := HO.out.conv
      obtain ⟨t, ht⟩ : ∃ t, t = mkS T := ⟨_, rfl⟩
      rw [← ht] at hcv
      have HT := hid ht
      clear HJ HO hE ht
      go_wp2
      go_ret2
      rw [HE.out]
      exact ⟨by rw [← HT.out]; rfl, HB.out⟩
end Go.Proofs.Ythebjelkmopboaa
