/-
The walk of quillkeep.MirrorArms: it returns true for every string and number.
-/
import Derived.Test.YtgeikpfbgdgciaaMirror
import Derived.Test.YtgeikpfbgdgciaaKeep
import Derived.Test.YtgeikpfbgdgciaaBack
import Derived.Test.YtgeikpfbgdgciaaEqual
import Derived.Deep.RegionHeld3
namespace Go.Proofs.Ytgeikpfbgdgciaa
open Go.RowKit

def abaS : ByteArray := ⟨#[97, 98, 97]⟩
theorem aba_arms : ∀ k, k < 7 → ag abaS k = ([0, 1, 0, 3, 0, 1, 0] : List Int).getD k 0 := by decide +kernel
theorem mod_lt (k : Int) (n : Nat) (h : 0 < n) : (k % n).toNat < n := by
  have h2 := Int.emod_nonneg k (show (n : Int) ≠ 0 by omega)
  have h3 := Int.emod_lt_of_pos k (show (0 : Int) < n by omega)
  omega
/-- The law's first question. -/
theorem back_pal {s : ByteArray} {a b : Nat} (hb : b ≤ s.size) (h : Mm.Pal (byt s) a b) : backS (s.extract a b) = s.extract a b := by
  rw [str_eq', backS_size]
  refine ⟨rfl, fun i hi => ?_⟩
  rw [backS_byt hi]
  rw [size_ext] at hi ⊢
  rw [byt_ext (by omega), byt_ext (by omega), h (a + i) (by omega) (by omega)]
  congr 1
  omega
set_option maxHeartbeats 1000000 in
theorem mirrorArms_large (s : ByteArray) (k : Int) (w : World) (hx : s.size ≤ maxLen) (hs : 200 < s.size) :
    Calls Try.prog 5 #[.string s, .int .i64 k] w fun e w' => e = .returned (.bool true) ∧ Below w.heap.size w w' := by
  have hbs : 200 < (backS s).size := by rw [backS_size]; exact hs
  go_enter Try.func5, Try.ntmps5
  go_wp2_with fail
  refine (Arms_ok abaS _ (by decide)).mono ?_
  rintro e w1 ⟨A, c, rfl, hr1, hb1⟩
  rw [show 2 * abaS.size + 1 = 7 from rfl] at hr1 ⊢
  have HL1 : Hid (IRow (w1.alloc (.cells #[.int .i64 0, .int .i64 1, .int .i64 0, .int .i64 3, .int .i64 0, .int .i64 1, .int .i64 0] 3)) (some ⟨w1.heap.size, 0, none⟩) 7 (fun k => ([0, 1, 0, 3, 0, 1, 0] : List Int).getD k 0)) := IRow.lit w1 [0, 1, 0, 3, 0, 1, 0] 3 7 _ rfl rfl
  have R1 := hid (hr1.alloc (.cells #[.int .i64 0, .int .i64 1, .int .i64 0, .int .i64 3, .int .i64 0, .int .i64 1, .int .i64 0] 3))
  have HB1 := hid (bl_then hb1 (bl_new w1 (.cells #[.int .i64 0, .int .i64 1, .int .i64 0, .int .i64 3, .int .i64 0, .int .i64 1, .int .i64 0] 3)))
  clear hr1 hb1
  go_wp2_with fail
  with_reducible refine (equal_any R1.out HL1.out (by decide) (by decide)).mono ?_
  rw [eqB_true.2 ⟨rfl, aba_arms⟩]
  rintro e w2 ⟨rfl, hd2⟩
  have HB2 := hid (HB1.out.trans (hd2.below _))
  clear hd2 HB1 R1 HL1
  go_wp2_with fail
  with_reducible refine (Arms_large s _ hs).mono ?_
  rintro e w3 ⟨rfl, rfl⟩
  go_wp2_with fail
  with_reducible refine (back_any s _ hx).mono ?_
  rintro e w3 ⟨rfl, hb3⟩
  go_wp2_with fail
  with_reducible refine (Arms_large (backS s) _ hbs).mono ?_
  rintro e w4 ⟨rfl, rfl⟩
  have HB3 := hid (bl_then HB2.out hb3)
  clear HB2 hb3
  go_wp2
  go_ret
  exact ⟨rfl, HB3.out⟩
set_option maxHeartbeats 1000000 in
theorem mirrorArms_ok (s : ByteArray) (k : Int) (w : World) (hs : s.size ≤ 200) :
    Calls Try.prog 5 #[.string s, .int .i64 k] w fun e w' => e = .returned (.bool true) ∧ Below w.heap.size w w' := by
  have hbs : (backS s).size = s.size := backS_size s
  have hbs2 : (backS s).size ≤ 200 := by omega
  have hx : s.size ≤ maxLen := by unfold maxLen; omega
  obtain ⟨m, hm⟩ : ∃ m, m = 2 * s.size + 1 := ⟨_, rfl⟩
  have hm1 : m ≤ 401 := by omega
  have hm2 : 0 < m := by omega
  have hm' : 2 * (s.size : Int) + 1 = (m : Int) := by omega
  have HM := hid hm
  go_enter Try.func5, Try.ntmps5
  go_wp2_with fail
  refine (Arms_ok abaS _ (by decide)).mono ?_
  rintro e w1 ⟨A, c, rfl, hr1, hb1⟩
  rw [show 2 * abaS.size + 1 = 7 from rfl] at hr1 ⊢
  have HL1 : Hid (IRow (w1.alloc (.cells #[.int .i64 0, .int .i64 1, .int .i64 0, .int .i64 3, .int .i64 0, .int .i64 1, .int .i64 0] 3)) (some ⟨w1.heap.size, 0, none⟩) 7 (fun k => ([0, 1, 0, 3, 0, 1, 0] : List Int).getD k 0)) := IRow.lit w1 [0, 1, 0, 3, 0, 1, 0] 3 7 _ rfl rfl
  have R1 := hid (hr1.alloc (.cells #[.int .i64 0, .int .i64 1, .int .i64 0, .int .i64 3, .int .i64 0, .int .i64 1, .int .i64 0] 3))
  have HB1 := hid (bl_then hb1 (bl_new w1 (.cells #[.int .i64 0, .int .i64 1, .int .i64 0, .int .i64 3, .int .i64 0, .int .i64 1, .int .i64 0] 3)))
  clear hr1 hb1
  go_wp2_with fail
  with_reducible refine (equal_any R1.out HL1.out (by decide) (by decide)).mono ?_
  rw [eqB_true.2 ⟨rfl, aba_arms⟩]
  rintro e w2 ⟨rfl, hd2⟩
  have HB2 := hid (HB1.out.trans (hd2.below _))
  clear hd2 HB1 R1 HL1
  go_wp2_with fail
  with_reducible refine (Arms_ok s _ hs).mono ?_
  rintro e w3 ⟨A1, c1, rfl, hr1, hb3⟩
  rw [← hm] at hr1 ⊢
  have HR1 := hid hr1
  clear hr1
  go_wp2_with fail
  with_reducible refine (back_any s _ hx).mono ?_
  rintro e w4 ⟨rfl, hb4⟩
  replace HR1 := hid (HR1.out.keep hb4)
  go_wp2_with fail
  with_reducible refine (Arms_ok (backS s) _ hbs2).mono ?_
  rintro e w5 ⟨A2, c2, rfl, hr2, hb5⟩
  rw [hbs, ← hm] at hr2 ⊢
  have HR2 := hid hr2
  replace HR1 := hid (HR1.out.keep hb5)
  have HB5 := hid (bl_then (bl_then (bl_then HB2.out hb3) hb4) hb5)
  clear hr2 hb3 hb4 hb5 HB2 hm
  go_wp2_with fail
  with_reducible refine (within_any k m _ hm2 (by omega)).mono ?_
  have hk := mod_lt k m hm2
  generalize (k % (m : Int)).toNat = r at hk
  rintro e w6 ⟨rfl, rfl⟩
  obtain ⟨b1, o1, rfl, _, hc1⟩ := HR1.out.at_ hk
  obtain ⟨b2, o2, rfl, _, hc2⟩ := HR2.out.at_ (show m - 1 - r < m by omega)
  have hr2s : r ≤ 2 * s.size := by have := HM.out; omega
  have hle := Mm.arm_le (f := byt s) hr2s
  have hpal := Mm.arm_pal (f := byt s) hr2s (Nat.le_refl _) hle.2.2
  have hend := Mm.arm_end (f := byt s) hr2s
  have hbk : Mm.arm (byt (backS s)) (backS s).size (m - 1 - r) = Mm.arm (byt s) s.size r := by
    rw [hbs, show m - 1 - r = 2 * s.size - r by have := HM.out; omega]
    exact Mm.arm_back hr2s fun i hi => backS_byt hi
  unfold ag at hc1 hc2
  rw [hbk] at hc2
  obtain ⟨n, hn⟩ : ∃ n, n = Mm.arm (byt s) s.size r := ⟨_, rfl⟩
  rw [← hn] at hc1 hc2 hle hpal hend
  clear hbk hn
  obtain ⟨hle1, hle2, hle3⟩ := hle
  have HP := hid hpal
  have HE := hid hend
  have HV := hid hle3
  obtain ⟨p, hp⟩ : ∃ p, p = (r - n) / 2 := ⟨_, rfl⟩
  obtain ⟨q, hq⟩ : ∃ q, q = (r + n) / 2 := ⟨_, rfl⟩
  have g1 : (n : Int) ≤ 2 * (s.size : Int) - (r : Int) := by omega
  have g2 : (((n : Int) + (r : Int)) % 2 != 0) = false := by rw [show ((n : Int) + (r : Int)) % 2 = 0 by omega]; rfl
  have hp' : ((r : Int) - (n : Int)) / 2 = (p : Int) := by omega
  have hq' : ((r : Int) + (n : Int)) / 2 = (q : Int) := by omega
  have hpq : p ≤ q := by omega
  have hqs : q ≤ s.size := by omega
  have hpq' : (p : Int) ≤ (q : Int) := by omega
  have hqs' : (q : Int) ≤ (s.size : Int) := by omega
  have hnr : (0 : Int) ≤ (r : Int) - (n : Int) := by omega
  have ht : backS (s.extract p q) = s.extract p q := by rw [hp, hq]; exact back_pal (by omega) hpal
  have htz : (s.extract p q).size ≤ maxLen := by unfold maxLen; rw [size_ext]; omega
  have hcase : p = 0 ∨ q = s.size ∨ (0 < p ∧ q < s.size ∧ byt s (p - 1) ≠ byt s q) := by
    rw [← hp, ← hq] at hend
    rcases hend with h | h | h
    · left; omega
    · right; left; omega
    · by_cases h0 : 0 < p
      · by_cases h1 : q < s.size
        · exact .inr (.inr ⟨h0, h1, h⟩)
        · right; left; omega
      · left; omega
  have HC := hid hcase
  have HT := hid ht
  clear hpal hend hle3 HR1 HR2 hp hq hcase ht HP HE HV
  have hw5 := HB5.out
  go_wp2_with fail
  simp only [hq']
  clear hp' hq' g1 g2 hc1 hc2
  have hbt : ((s.extract p q).toList == (s.extract p q).toList) = true := by simp
  by_cases h0 : 0 < p
  · obtain ⟨j, hj⟩ : ∃ j, j = p - 1 := ⟨_, rfl⟩
    have ej : (p : Int) - 1 = (j : Int) := by omega
    have ej0 : (0 : Int) ≤ (j : Int) := by omega
    have ej1 : ¬ (j : Int) < 0 := by omega
    have ej2 : decide ((j : Int) < 0) = false := decide_eq_false (by omega)
    have ejs : (j : Int) < (s.size : Int) := by omega
    have ejn : j < s.size := by omega
    simp only [ej]
    clear ej
    by_cases h1 : q < s.size
    · have h1' : ¬ (s.size : Int) ≤ (q : Int) := by omega
      have h2' : decide ((s.size : Int) ≤ (q : Int)) = false := decide_eq_false (by omega)
      have h4' : decide (s.size ≤ q) = false := decide_eq_false (by omega)
      have h3' : (q : Int) < (s.size : Int) := by omega
      have hne : ((s[j].toNat : Int) != (s[q].toNat : Int)) = true := by
        rw [← byt_eq ejn, ← byt_eq h1]
        rcases HC.out with h | h | ⟨_, _, h⟩
        · omega
        · omega
        · rw [hj]; exact (byte_ne h).1
      clear hj
      go_region_held3 (fun _ => True) (trivial) (first | (go_at_call 18; (with_reducible refine (back_any _ _ htz).mono ?_); rw [HT.out]; rintro e w7 ⟨rfl, hb7⟩))
      all_goals (first | (go_wp2; go_ret; exact ⟨rfl, bl_then hw5 (bl_of_drewN (n := 1) hb7)⟩) | (go_ret; exact ⟨rfl, bl_then hw5 (bl_of_drewN (n := 1) hb7)⟩))
    · have h2' : decide ((q : Int) < (s.size : Int)) = false := decide_eq_false (by omega)
      have h3' : (s.size : Int) ≤ (q : Int) := by omega
      have h4' : decide ((s.size : Int) ≤ (q : Int)) = true := decide_eq_true h3'
      clear hj
      refine wp_region_held_drew (S := fun _ => True) (by kernel_rfl) trivial (fun hHeld => ?_)
      refine wpAnyH_take (i := 0) (oi := { dst := Option.some 128, op := Op.move (Operand.tmp 12), type := 9, pos := "low.go:656", after := #[], guard := Option.none }) (v := ?tv1) rfl (by kernel_rfl) (by kernel_rfl) (by kernel_rfl) (fun _ _ _ h => h) (Or.inl ⟨by rfl, ?ty1⟩) (by assumption) ?tr1; (case ty1 => (intro w hSw; (try dsimp only at hSw); go_simp; try (with_reducible rfl))); (try simp only [Act.put, List.setIfInBounds_toArray, List.set_cons_zero, List.set_cons_succ]); refine wpAnyH_take (i := 2) (oi := { dst := Option.some 130, op := Op.move (Operand.tmp 12), type := 9, pos := "low.go:656", after := #[], guard := Option.none }) (v := ?tv2) rfl (by kernel_rfl) (by kernel_rfl) (by kernel_rfl) (fun _ _ _ h => h) (Or.inl ⟨by rfl, ?ty2⟩) (by assumption) ?tr2; (case ty2 => (intro w hSw; (try dsimp only at hSw); go_simp; try (with_reducible rfl))); (try simp only [Act.put, List.setIfInBounds_toArray, List.set_cons_zero, List.set_cons_succ])
      refine wpAnyH_ready (rs := [1]) (by kernel_rfl) (by simp) ?_
      refine AllReadyH.cons (o := { dst := Option.some 129, op := Op.call { callee := Callee.value (Operand.func 18), args := #[Operand.tmp 128], argTypes := #[9] }, type := 9, pos := "low.go:656", after := #[{ on := 0, ground := Ground.data }], guard := Option.none }) rfl (fun K hK => ?_) AllReadyH.nil
      go_simp
      with_reducible refine (back_any _ _ htz).mono ?_
      rw [HT.out]
      rintro e w7 ⟨rfl, hb7⟩
      refine hK.out _ _ trivial (fun hHeld => ?_)
      clear hK K
      (try simp only [Act.put, List.setIfInBounds_toArray, List.set_cons_zero, List.set_cons_succ])
      refine wpAnyH_take (i := 3) (oi := { dst := Option.some 131, op := Op.binOp BinOp.eql 9 (Operand.tmp 129) (Operand.tmp 130) 9, type := 4, pos := "low.go:656", after := #[{ on := 1, ground := Ground.data }, { on := 2, ground := Ground.data }], guard := Option.none }) (v := ?tv3) rfl (by kernel_rfl) (by kernel_rfl) (by kernel_rfl) (fun _ _ _ h => h) (Or.inl ⟨by rfl, ?ty3⟩) (by assumption) ?tr3; (case ty3 => (intro w hSw; (try dsimp only at hSw); go_simp; try (with_reducible rfl))); (try simp only [Act.put, List.setIfInBounds_toArray, List.set_cons_zero, List.set_cons_succ]); refine wpAnyH_take (i := 4) (oi := { dst := Option.some 132, op := Op.move (Operand.tmp 131), type := 4, pos := "low.go:656", after := #[{ on := 3, ground := Ground.data }, { on := 1, ground := Ground.chain }], guard := Option.none }) (v := ?tv4) rfl (by kernel_rfl) (by kernel_rfl) (by kernel_rfl) (fun _ _ _ h => h) (Or.inl ⟨by rfl, ?ty4⟩) (by assumption) ?tr4; (case ty4 => (intro w hSw; (try dsimp only at hSw); go_simp; try (with_reducible rfl))); (try simp only [Act.put, List.setIfInBounds_toArray, List.set_cons_zero, List.set_cons_succ]); refine wpAnyH_take (i := 5) (oi := { dst := Option.some 133, op := Op.move (Operand.tmp 13), type := 3, pos := "low.go:656", after := #[{ on := 4, ground := Ground.guard }], guard := Option.some (4, Bool.true) }) (v := ?tv5) rfl (by kernel_rfl) (by kernel_rfl) (by kernel_rfl) (fun _ _ _ h => h) (Or.inl ⟨by rfl, ?ty5⟩) (by assumption) ?tr5; (case ty5 => (intro w hSw; (try dsimp only at hSw); go_simp; try (with_reducible rfl))); (try simp only [Act.put, List.setIfInBounds_toArray, List.set_cons_zero, List.set_cons_succ]); refine wpAnyH_take (i := 6) (oi := { dst := Option.some 134, op := Op.binOp BinOp.lss 3 (Operand.tmp 133) (Operand.const (Value.int IntKind.i64 0)) 3, type := 4, pos := "low.go:656", after := #[{ on := 5, ground := Ground.data }, { on := 4, ground := Ground.guard }], guard := Option.some (4, Bool.true) }) (v := ?tv6) rfl (by kernel_rfl) (by kernel_rfl) (by kernel_rfl) (fun _ _ _ h => h) (Or.inl ⟨by rfl, ?ty6⟩) (by assumption) ?tr6; (case ty6 => (intro w hSw; (try dsimp only at hSw); go_simp; try (with_reducible rfl))); (try simp only [Act.put, List.setIfInBounds_toArray, List.set_cons_zero, List.set_cons_succ]); refine wpAnyH_take (i := 7) (oi := { dst := Option.some 135, op := Op.move (Operand.tmp 134), type := 4, pos := "low.go:656", after := #[{ on := 6, ground := Ground.data }, { on := 4, ground := Ground.chain }, { on := 4, ground := Ground.guard }], guard := Option.some (4, Bool.true) }) (v := ?tv7) rfl (by kernel_rfl) (by kernel_rfl) (by kernel_rfl) (fun _ _ _ h => h) (Or.inl ⟨by rfl, ?ty7⟩) (by assumption) ?tr7; (case ty7 => (intro w hSw; (try dsimp only at hSw); go_simp; try (with_reducible rfl))); (try simp only [Act.put, List.setIfInBounds_toArray, List.set_cons_zero, List.set_cons_succ]); refine wpAnyH_take (i := 8) (oi := { dst := Option.some 136, op := Op.move (Operand.tmp 14), type := 3, pos := "low.go:656", after := #[{ on := 7, ground := Ground.guard }], guard := Option.some (7, Bool.false) }) (v := ?tv8) rfl (by kernel_rfl) (by kernel_rfl) (by kernel_rfl) (fun _ _ _ h => h) (Or.inl ⟨by rfl, ?ty8⟩) (by assumption) ?tr8; (case ty8 => (intro w hSw; (try dsimp only at hSw); go_simp; try (with_reducible rfl))); (try simp only [Act.put, List.setIfInBounds_toArray, List.set_cons_zero, List.set_cons_succ]); refine wpAnyH_take (i := 9) (oi := { dst := Option.some 137, op := Op.move (Operand.tmp 0), type := 9, pos := "low.go:656", after := #[{ on := 7, ground := Ground.guard }], guard := Option.some (7, Bool.false) }) (v := ?tv9) rfl (by kernel_rfl) (by kernel_rfl) (by kernel_rfl) (fun _ _ _ h => h) (Or.inl ⟨by rfl, ?ty9⟩) (by assumption) ?tr9; (case ty9 => (intro w hSw; (try dsimp only at hSw); go_simp; try (with_reducible rfl))); (try simp only [Act.put, List.setIfInBounds_toArray, List.set_cons_zero, List.set_cons_succ]); refine wpAnyH_take (i := 10) (oi := { dst := Option.some 138, op := Op.call { callee := Callee.builtin Builtin.len, args := #[Operand.tmp 137], argTypes := #[9] }, type := 3, pos := "low.go:656", after := #[{ on := 9, ground := Ground.data }, { on := 7, ground := Ground.guard }], guard := Option.some (7, Bool.false) }) (v := ?tv10) rfl (by kernel_rfl) (by kernel_rfl) (by kernel_rfl) (fun _ _ _ h => h) (Or.inl ⟨by rfl, ?ty10⟩) (by assumption) ?tr10; (case ty10 => (intro w hSw; (try dsimp only at hSw); go_simp; try (with_reducible rfl))); (try simp only [Act.put, List.setIfInBounds_toArray, List.set_cons_zero, List.set_cons_succ]); refine wpAnyH_take (i := 11) (oi := { dst := Option.some 139, op := Op.binOp BinOp.geq 3 (Operand.tmp 136) (Operand.tmp 138) 3, type := 4, pos := "low.go:656", after := #[{ on := 8, ground := Ground.data }, { on := 10, ground := Ground.data }, { on := 7, ground := Ground.guard }], guard := Option.some (7, Bool.false) }) (v := ?tv11) rfl (by kernel_rfl) (by kernel_rfl) (by kernel_rfl) (fun _ _ _ h => h) (Or.inl ⟨by rfl, ?ty11⟩) (by assumption) ?tr11; (case ty11 => (intro w hSw; (try dsimp only at hSw); go_simp; try (with_reducible rfl))); (try simp only [Act.put, List.setIfInBounds_toArray, List.set_cons_zero, List.set_cons_succ]); refine wpAnyH_take (i := 12) (oi := { dst := Option.some 140, op := Op.pick (Operand.tmp 135) (Operand.const (Value.bool Bool.true)) (Operand.tmp 139), type := 4, pos := "low.go:656", after := #[{ on := 7, ground := Ground.data }, { on := 11, ground := Ground.data }, { on := 4, ground := Ground.guard }], guard := Option.some (4, Bool.true) }) (v := ?tv12) rfl (by kernel_rfl) (by kernel_rfl) (by kernel_rfl) (fun _ _ _ h => h) (Or.inl ⟨by rfl, ?ty12⟩) (by assumption) ?tr12; (case ty12 => (intro w hSw; (try dsimp only at hSw); go_simp; try (with_reducible rfl))); (try simp only [Act.put, List.setIfInBounds_toArray, List.set_cons_zero, List.set_cons_succ]); refine wpAnyH_take (i := 13) (oi := { dst := Option.some 141, op := Op.move (Operand.tmp 140), type := 4, pos := "low.go:656", after := #[{ on := 12, ground := Ground.data }, { on := 7, ground := Ground.chain }, { on := 4, ground := Ground.guard }], guard := Option.some (4, Bool.true) }) (v := ?tv13) rfl (by kernel_rfl) (by kernel_rfl) (by kernel_rfl) (fun _ _ _ h => h) (Or.inl ⟨by rfl, ?ty13⟩) (by assumption) ?tr13; (case ty13 => (intro w hSw; (try dsimp only at hSw); go_simp; try (with_reducible rfl))); (try simp only [Act.put, List.setIfInBounds_toArray, List.set_cons_zero, List.set_cons_succ]); refine wpAnyH_take (i := 14) (oi := { dst := Option.some 142, op := Op.move (Operand.tmp 0), type := 9, pos := "low.go:656", after := #[{ on := 13, ground := Ground.guard }], guard := Option.some (13, Bool.false) }) (v := undef) rfl (by kernel_rfl) (by kernel_rfl) (by kernel_rfl) (fun _ _ _ h => h) (Or.inr ⟨by rfl, rfl⟩) (by assumption) ?_; (try simp only [Act.put, List.setIfInBounds_toArray, List.set_cons_zero, List.set_cons_succ]); refine wpAnyH_take (i := 15) (oi := { dst := Option.some 143, op := Op.move (Operand.tmp 13), type := 3, pos := "low.go:656", after := #[{ on := 13, ground := Ground.guard }], guard := Option.some (13, Bool.false) }) (v := undef) rfl (by kernel_rfl) (by kernel_rfl) (by kernel_rfl) (fun _ _ _ h => h) (Or.inr ⟨by rfl, rfl⟩) (by assumption) ?_; (try simp only [Act.put, List.setIfInBounds_toArray, List.set_cons_zero, List.set_cons_succ]); refine wpAnyH_take (i := 16) (oi := { dst := Option.some 144, op := Op.index 9 (Operand.tmp 142) (Operand.tmp 143), type := 5, pos := "low.go:656", after := #[{ on := 14, ground := Ground.data }, { on := 15, ground := Ground.data }, { on := 13, ground := Ground.guard }], guard := Option.some (13, Bool.false) }) (v := undef) rfl (by kernel_rfl) (by kernel_rfl) (by kernel_rfl) (fun _ _ _ h => h) (Or.inr ⟨by rfl, rfl⟩) (by assumption) ?_; (try simp only [Act.put, List.setIfInBounds_toArray, List.set_cons_zero, List.set_cons_succ]); refine wpAnyH_take (i := 17) (oi := { dst := Option.some 145, op := Op.move (Operand.tmp 0), type := 9, pos := "low.go:656", after := #[{ on := 13, ground := Ground.guard }], guard := Option.some (13, Bool.false) }) (v := undef) rfl (by kernel_rfl) (by kernel_rfl) (by kernel_rfl) (fun _ _ _ h => h) (Or.inr ⟨by rfl, rfl⟩) (by assumption) ?_; (try simp only [Act.put, List.setIfInBounds_toArray, List.set_cons_zero, List.set_cons_succ]); refine wpAnyH_take (i := 18) (oi := { dst := Option.some 146, op := Op.move (Operand.tmp 14), type := 3, pos := "low.go:656", after := #[{ on := 13, ground := Ground.guard }], guard := Option.some (13, Bool.false) }) (v := undef) rfl (by kernel_rfl) (by kernel_rfl) (by kernel_rfl) (fun _ _ _ h => h) (Or.inr ⟨by rfl, rfl⟩) (by assumption) ?_; (try simp only [Act.put, List.setIfInBounds_toArray, List.set_cons_zero, List.set_cons_succ]); refine wpAnyH_take (i := 19) (oi := { dst := Option.some 147, op := Op.index 9 (Operand.tmp 145) (Operand.tmp 146), type := 5, pos := "low.go:656", after := #[{ on := 17, ground := Ground.data }, { on := 18, ground := Ground.data }, { on := 13, ground := Ground.guard }], guard := Option.some (13, Bool.false) }) (v := undef) rfl (by kernel_rfl) (by kernel_rfl) (by kernel_rfl) (fun _ _ _ h => h) (Or.inr ⟨by rfl, rfl⟩) (by assumption) ?_; (try simp only [Act.put, List.setIfInBounds_toArray, List.set_cons_zero, List.set_cons_succ]); refine wpAnyH_take (i := 20) (oi := { dst := Option.some 148, op := Op.binOp BinOp.neq 5 (Operand.tmp 144) (Operand.tmp 147) 5, type := 4, pos := "low.go:656", after := #[{ on := 16, ground := Ground.data }, { on := 19, ground := Ground.data }, { on := 13, ground := Ground.guard }], guard := Option.some (13, Bool.false) }) (v := undef) rfl (by kernel_rfl) (by kernel_rfl) (by kernel_rfl) (fun _ _ _ h => h) (Or.inr ⟨by rfl, rfl⟩) (by assumption) ?_; (try simp only [Act.put, List.setIfInBounds_toArray, List.set_cons_zero, List.set_cons_succ]); refine wpAnyH_take (i := 21) (oi := { dst := Option.some 149, op := Op.pick (Operand.tmp 141) (Operand.const (Value.bool Bool.true)) (Operand.tmp 148), type := 4, pos := "low.go:656", after := #[{ on := 13, ground := Ground.data }, { on := 20, ground := Ground.data }, { on := 4, ground := Ground.guard }], guard := Option.some (4, Bool.true) }) (v := ?tv14) rfl (by kernel_rfl) (by kernel_rfl) (by kernel_rfl) (fun _ _ _ h => h) (Or.inl ⟨by rfl, ?ty14⟩) (by assumption) ?tr14; (case ty14 => (intro w hSw; (try dsimp only at hSw); go_simp; try (with_reducible rfl))); (try simp only [Act.put, List.setIfInBounds_toArray, List.set_cons_zero, List.set_cons_succ]); refine wpAnyH_take (i := 22) (oi := { dst := Option.some 150, op := Op.pick (Operand.tmp 132) (Operand.tmp 149) (Operand.const (Value.bool Bool.false)), type := 4, pos := "low.go:656", after := #[{ on := 4, ground := Ground.data }, { on := 21, ground := Ground.data }], guard := Option.none }) (v := ?tv15) rfl (by kernel_rfl) (by kernel_rfl) (by kernel_rfl) (fun _ _ _ h => h) (Or.inl ⟨by rfl, ?ty15⟩) (by assumption) ?tr15; (case ty15 => (intro w hSw; (try dsimp only at hSw); go_simp; try (with_reducible rfl))); (try simp only [Act.put, List.setIfInBounds_toArray, List.set_cons_zero, List.set_cons_succ]); refine wpAnyH_take (i := 23) (oi := { dst := Option.some 4, op := Op.assign (Operand.tmp 150), type := 4, pos := "low.go:656", after := #[{ on := 22, ground := Ground.data }, { on := 13, ground := Ground.chain }, { on := 0, ground := Ground.phase }, { on := 1, ground := Ground.phase }, { on := 2, ground := Ground.phase }, { on := 3, ground := Ground.phase }, { on := 4, ground := Ground.phase }, { on := 5, ground := Ground.phase }, { on := 6, ground := Ground.phase }, { on := 7, ground := Ground.phase }, { on := 8, ground := Ground.phase }, { on := 9, ground := Ground.phase }, { on := 10, ground := Ground.phase }, { on := 11, ground := Ground.phase }, { on := 12, ground := Ground.phase }, { on := 13, ground := Ground.phase }, { on := 14, ground := Ground.phase }, { on := 15, ground := Ground.phase }, { on := 16, ground := Ground.phase }, { on := 17, ground := Ground.phase }, { on := 18, ground := Ground.phase }, { on := 19, ground := Ground.phase }, { on := 20, ground := Ground.phase }, { on := 21, ground := Ground.phase }, { on := 22, ground := Ground.phase }], guard := Option.none }) (v := ?tv16) rfl (by kernel_rfl) (by kernel_rfl) (by kernel_rfl) (fun _ _ _ h => h) (Or.inl ⟨by rfl, ?ty16⟩) (by assumption) ?tr16; (case ty16 => (intro w hSw; (try dsimp only at hSw); go_simp; try (with_reducible rfl))); (try simp only [Act.put, List.setIfInBounds_toArray, List.set_cons_zero, List.set_cons_succ])
      refine wpAnyH_done (by kernel_rfl) ?_ _
      all_goals (first | (go_wp2; go_ret; exact ⟨rfl, bl_then hw5 (bl_of_drewN (n := 1) hb7)⟩) | (go_ret; exact ⟨rfl, bl_then hw5 (bl_of_drewN (n := 1) hb7)⟩))
  · obtain ⟨f, hf⟩ : ∃ f : Int, f = (p : Int) - 1 := ⟨_, rfl⟩
    have hf0 : f < 0 := by omega
    have hf1 : decide (f < 0) = true := decide_eq_true hf0
    simp only [← hf]
    clear hf
    refine wp_region_held_drew (S := fun _ => True) (by kernel_rfl) trivial (fun hHeld => ?_)
    refine wpAnyH_take (i := 0) (oi := { dst := Option.some 128, op := Op.move (Operand.tmp 12), type := 9, pos := "low.go:656", after := #[], guard := Option.none }) (v := ?tv17) rfl (by kernel_rfl) (by kernel_rfl) (by kernel_rfl) (fun _ _ _ h => h) (Or.inl ⟨by rfl, ?ty17⟩) (by assumption) ?tr17; (case ty17 => (intro w hSw; (try dsimp only at hSw); go_simp; try (with_reducible rfl))); (try simp only [Act.put, List.setIfInBounds_toArray, List.set_cons_zero, List.set_cons_succ]); refine wpAnyH_take (i := 2) (oi := { dst := Option.some 130, op := Op.move (Operand.tmp 12), type := 9, pos := "low.go:656", after := #[], guard := Option.none }) (v := ?tv18) rfl (by kernel_rfl) (by kernel_rfl) (by kernel_rfl) (fun _ _ _ h => h) (Or.inl ⟨by rfl, ?ty18⟩) (by assumption) ?tr18; (case ty18 => (intro w hSw; (try dsimp only at hSw); go_simp; try (with_reducible rfl))); (try simp only [Act.put, List.setIfInBounds_toArray, List.set_cons_zero, List.set_cons_succ])
    refine wpAnyH_ready (rs := [1]) (by kernel_rfl) (by simp) ?_
    refine AllReadyH.cons (o := { dst := Option.some 129, op := Op.call { callee := Callee.value (Operand.func 18), args := #[Operand.tmp 128], argTypes := #[9] }, type := 9, pos := "low.go:656", after := #[{ on := 0, ground := Ground.data }], guard := Option.none }) rfl (fun K hK => ?_) AllReadyH.nil
    go_simp
    with_reducible refine (back_any _ _ htz).mono ?_
    rw [HT.out]
    rintro e w7 ⟨rfl, hb7⟩
    refine hK.out _ _ trivial (fun hHeld => ?_)
    clear hK K
    (try simp only [Act.put, List.setIfInBounds_toArray, List.set_cons_zero, List.set_cons_succ])
    refine wpAnyH_take (i := 3) (oi := { dst := Option.some 131, op := Op.binOp BinOp.eql 9 (Operand.tmp 129) (Operand.tmp 130) 9, type := 4, pos := "low.go:656", after := #[{ on := 1, ground := Ground.data }, { on := 2, ground := Ground.data }], guard := Option.none }) (v := ?tv19) rfl (by kernel_rfl) (by kernel_rfl) (by kernel_rfl) (fun _ _ _ h => h) (Or.inl ⟨by rfl, ?ty19⟩) (by assumption) ?tr19; (case ty19 => (intro w hSw; (try dsimp only at hSw); go_simp; try (with_reducible rfl))); (try simp only [Act.put, List.setIfInBounds_toArray, List.set_cons_zero, List.set_cons_succ]); refine wpAnyH_take (i := 4) (oi := { dst := Option.some 132, op := Op.move (Operand.tmp 131), type := 4, pos := "low.go:656", after := #[{ on := 3, ground := Ground.data }, { on := 1, ground := Ground.chain }], guard := Option.none }) (v := ?tv20) rfl (by kernel_rfl) (by kernel_rfl) (by kernel_rfl) (fun _ _ _ h => h) (Or.inl ⟨by rfl, ?ty20⟩) (by assumption) ?tr20; (case ty20 => (intro w hSw; (try dsimp only at hSw); go_simp; try (with_reducible rfl))); (try simp only [Act.put, List.setIfInBounds_toArray, List.set_cons_zero, List.set_cons_succ]); refine wpAnyH_take (i := 5) (oi := { dst := Option.some 133, op := Op.move (Operand.tmp 13), type := 3, pos := "low.go:656", after := #[{ on := 4, ground := Ground.guard }], guard := Option.some (4, Bool.true) }) (v := ?tv21) rfl (by kernel_rfl) (by kernel_rfl) (by kernel_rfl) (fun _ _ _ h => h) (Or.inl ⟨by rfl, ?ty21⟩) (by assumption) ?tr21; (case ty21 => (intro w hSw; (try dsimp only at hSw); go_simp; try (with_reducible rfl))); (try simp only [Act.put, List.setIfInBounds_toArray, List.set_cons_zero, List.set_cons_succ]); refine wpAnyH_take (i := 6) (oi := { dst := Option.some 134, op := Op.binOp BinOp.lss 3 (Operand.tmp 133) (Operand.const (Value.int IntKind.i64 0)) 3, type := 4, pos := "low.go:656", after := #[{ on := 5, ground := Ground.data }, { on := 4, ground := Ground.guard }], guard := Option.some (4, Bool.true) }) (v := ?tv22) rfl (by kernel_rfl) (by kernel_rfl) (by kernel_rfl) (fun _ _ _ h => h) (Or.inl ⟨by rfl, ?ty22⟩) (by assumption) ?tr22; (case ty22 => (intro w hSw; (try dsimp only at hSw); go_simp; try (with_reducible rfl))); (try simp only [Act.put, List.setIfInBounds_toArray, List.set_cons_zero, List.set_cons_succ]); refine wpAnyH_take (i := 7) (oi := { dst := Option.some 135, op := Op.move (Operand.tmp 134), type := 4, pos := "low.go:656", after := #[{ on := 6, ground := Ground.data }, { on := 4, ground := Ground.chain }, { on := 4, ground := Ground.guard }], guard := Option.some (4, Bool.true) }) (v := ?tv23) rfl (by kernel_rfl) (by kernel_rfl) (by kernel_rfl) (fun _ _ _ h => h) (Or.inl ⟨by rfl, ?ty23⟩) (by assumption) ?tr23; (case ty23 => (intro w hSw; (try dsimp only at hSw); go_simp; try (with_reducible rfl))); (try simp only [Act.put, List.setIfInBounds_toArray, List.set_cons_zero, List.set_cons_succ]); refine wpAnyH_take (i := 8) (oi := { dst := Option.some 136, op := Op.move (Operand.tmp 14), type := 3, pos := "low.go:656", after := #[{ on := 7, ground := Ground.guard }], guard := Option.some (7, Bool.false) }) (v := undef) rfl (by kernel_rfl) (by kernel_rfl) (by kernel_rfl) (fun _ _ _ h => h) (Or.inr ⟨by rfl, rfl⟩) (by assumption) ?_; (try simp only [Act.put, List.setIfInBounds_toArray, List.set_cons_zero, List.set_cons_succ]); refine wpAnyH_take (i := 9) (oi := { dst := Option.some 137, op := Op.move (Operand.tmp 0), type := 9, pos := "low.go:656", after := #[{ on := 7, ground := Ground.guard }], guard := Option.some (7, Bool.false) }) (v := undef) rfl (by kernel_rfl) (by kernel_rfl) (by kernel_rfl) (fun _ _ _ h => h) (Or.inr ⟨by rfl, rfl⟩) (by assumption) ?_; (try simp only [Act.put, List.setIfInBounds_toArray, List.set_cons_zero, List.set_cons_succ]); refine wpAnyH_take (i := 10) (oi := { dst := Option.some 138, op := Op.call { callee := Callee.builtin Builtin.len, args := #[Operand.tmp 137], argTypes := #[9] }, type := 3, pos := "low.go:656", after := #[{ on := 9, ground := Ground.data }, { on := 7, ground := Ground.guard }], guard := Option.some (7, Bool.false) }) (v := undef) rfl (by kernel_rfl) (by kernel_rfl) (by kernel_rfl) (fun _ _ _ h => h) (Or.inr ⟨by rfl, rfl⟩) (by assumption) ?_; (try simp only [Act.put, List.setIfInBounds_toArray, List.set_cons_zero, List.set_cons_succ]); refine wpAnyH_take (i := 11) (oi := { dst := Option.some 139, op := Op.binOp BinOp.geq 3 (Operand.tmp 136) (Operand.tmp 138) 3, type := 4, pos := "low.go:656", after := #[{ on := 8, ground := Ground.data }, { on := 10, ground := Ground.data }, { on := 7, ground := Ground.guard }], guard := Option.some (7, Bool.false) }) (v := undef) rfl (by kernel_rfl) (by kernel_rfl) (by kernel_rfl) (fun _ _ _ h => h) (Or.inr ⟨by rfl, rfl⟩) (by assumption) ?_; (try simp only [Act.put, List.setIfInBounds_toArray, List.set_cons_zero, List.set_cons_succ]); refine wpAnyH_take (i := 12) (oi := { dst := Option.some 140, op := Op.pick (Operand.tmp 135) (Operand.const (Value.bool Bool.true)) (Operand.tmp 139), type := 4, pos := "low.go:656", after := #[{ on := 7, ground := Ground.data }, { on := 11, ground := Ground.data }, { on := 4, ground := Ground.guard }], guard := Option.some (4, Bool.true) }) (v := ?tv24) rfl (by kernel_rfl) (by kernel_rfl) (by kernel_rfl) (fun _ _ _ h => h) (Or.inl ⟨by rfl, ?ty24⟩) (by assumption) ?tr24; (case ty24 => (intro w hSw; (try dsimp only at hSw); go_simp; try (with_reducible rfl))); (try simp only [Act.put, List.setIfInBounds_toArray, List.set_cons_zero, List.set_cons_succ]); refine wpAnyH_take (i := 13) (oi := { dst := Option.some 141, op := Op.move (Operand.tmp 140), type := 4, pos := "low.go:656", after := #[{ on := 12, ground := Ground.data }, { on := 7, ground := Ground.chain }, { on := 4, ground := Ground.guard }], guard := Option.some (4, Bool.true) }) (v := ?tv25) rfl (by kernel_rfl) (by kernel_rfl) (by kernel_rfl) (fun _ _ _ h => h) (Or.inl ⟨by rfl, ?ty25⟩) (by assumption) ?tr25; (case ty25 => (intro w hSw; (try dsimp only at hSw); go_simp; try (with_reducible rfl))); (try simp only [Act.put, List.setIfInBounds_toArray, List.set_cons_zero, List.set_cons_succ]); refine wpAnyH_take (i := 14) (oi := { dst := Option.some 142, op := Op.move (Operand.tmp 0), type := 9, pos := "low.go:656", after := #[{ on := 13, ground := Ground.guard }], guard := Option.some (13, Bool.false) }) (v := undef) rfl (by kernel_rfl) (by kernel_rfl) (by kernel_rfl) (fun _ _ _ h => h) (Or.inr ⟨by rfl, rfl⟩) (by assumption) ?_; (try simp only [Act.put, List.setIfInBounds_toArray, List.set_cons_zero, List.set_cons_succ]); refine wpAnyH_take (i := 15) (oi := { dst := Option.some 143, op := Op.move (Operand.tmp 13), type := 3, pos := "low.go:656", after := #[{ on := 13, ground := Ground.guard }], guard := Option.some (13, Bool.false) }) (v := undef) rfl (by kernel_rfl) (by kernel_rfl) (by kernel_rfl) (fun _ _ _ h => h) (Or.inr ⟨by rfl, rfl⟩) (by assumption) ?_; (try simp only [Act.put, List.setIfInBounds_toArray, List.set_cons_zero, List.set_cons_succ]); refine wpAnyH_take (i := 16) (oi := { dst := Option.some 144, op := Op.index 9 (Operand.tmp 142) (Operand.tmp 143), type := 5, pos := "low.go:656", after := #[{ on := 14, ground := Ground.data }, { on := 15, ground := Ground.data }, { on := 13, ground := Ground.guard }], guard := Option.some (13, Bool.false) }) (v := undef) rfl (by kernel_rfl) (by kernel_rfl) (by kernel_rfl) (fun _ _ _ h => h) (Or.inr ⟨by rfl, rfl⟩) (by assumption) ?_; (try simp only [Act.put, List.setIfInBounds_toArray, List.set_cons_zero, List.set_cons_succ]); refine wpAnyH_take (i := 17) (oi := { dst := Option.some 145, op := Op.move (Operand.tmp 0), type := 9, pos := "low.go:656", after := #[{ on := 13, ground := Ground.guard }], guard := Option.some (13, Bool.false) }) (v := undef) rfl (by kernel_rfl) (by kernel_rfl) (by kernel_rfl) (fun _ _ _ h => h) (Or.inr ⟨by rfl, rfl⟩) (by assumption) ?_; (try simp only [Act.put, List.setIfInBounds_toArray, List.set_cons_zero, List.set_cons_succ]); refine wpAnyH_take (i := 18) (oi := { dst := Option.some 146, op := Op.move (Operand.tmp 14), type := 3, pos := "low.go:656", after := #[{ on := 13, ground := Ground.guard }], guard := Option.some (13, Bool.false) }) (v := undef) rfl (by kernel_rfl) (by kernel_rfl) (by kernel_rfl) (fun _ _ _ h => h) (Or.inr ⟨by rfl, rfl⟩) (by assumption) ?_; (try simp only [Act.put, List.setIfInBounds_toArray, List.set_cons_zero, List.set_cons_succ]); refine wpAnyH_take (i := 19) (oi := { dst := Option.some 147, op := Op.index 9 (Operand.tmp 145) (Operand.tmp 146), type := 5, pos := "low.go:656", after := #[{ on := 17, ground := Ground.data }, { on := 18, ground := Ground.data }, { on := 13, ground := Ground.guard }], guard := Option.some (13, Bool.false) }) (v := undef) rfl (by kernel_rfl) (by kernel_rfl) (by kernel_rfl) (fun _ _ _ h => h) (Or.inr ⟨by rfl, rfl⟩) (by assumption) ?_; (try simp only [Act.put, List.setIfInBounds_toArray, List.set_cons_zero, List.set_cons_succ]); refine wpAnyH_take (i := 20) (oi := { dst := Option.some 148, op := Op.binOp BinOp.neq 5 (Operand.tmp 144) (Operand.tmp 147) 5, type := 4, pos := "low.go:656", after := #[{ on := 16, ground := Ground.data }, { on := 19, ground := Ground.data }, { on := 13, ground := Ground.guard }], guard := Option.some (13, Bool.false) }) (v := undef) rfl (by kernel_rfl) (by kernel_rfl) (by kernel_rfl) (fun _ _ _ h => h) (Or.inr ⟨by rfl, rfl⟩) (by assumption) ?_; (try simp only [Act.put, List.setIfInBounds_toArray, List.set_cons_zero, List.set_cons_succ]); refine wpAnyH_take (i := 21) (oi := { dst := Option.some 149, op := Op.pick (Operand.tmp 141) (Operand.const (Value.bool Bool.true)) (Operand.tmp 148), type := 4, pos := "low.go:656", after := #[{ on := 13, ground := Ground.data }, { on := 20, ground := Ground.data }, { on := 4, ground := Ground.guard }], guard := Option.some (4, Bool.true) }) (v := ?tv26) rfl (by kernel_rfl) (by kernel_rfl) (by kernel_rfl) (fun _ _ _ h => h) (Or.inl ⟨by rfl, ?ty26⟩) (by assumption) ?tr26; (case ty26 => (intro w hSw; (try dsimp only at hSw); go_simp; try (with_reducible rfl))); (try simp only [Act.put, List.setIfInBounds_toArray, List.set_cons_zero, List.set_cons_succ]); refine wpAnyH_take (i := 22) (oi := { dst := Option.some 150, op := Op.pick (Operand.tmp 132) (Operand.tmp 149) (Operand.const (Value.bool Bool.false)), type := 4, pos := "low.go:656", after := #[{ on := 4, ground := Ground.data }, { on := 21, ground := Ground.data }], guard := Option.none }) (v := ?tv27) rfl (by kernel_rfl) (by kernel_rfl) (by kernel_rfl) (fun _ _ _ h => h) (Or.inl ⟨by rfl, ?ty27⟩) (by assumption) ?tr27; (case ty27 => (intro w hSw; (try dsimp only at hSw); go_simp; try (with_reducible rfl))); (try simp only [Act.put, List.setIfInBounds_toArray, List.set_cons_zero, List.set_cons_succ]); refine wpAnyH_take (i := 23) (oi := { dst := Option.some 4, op := Op.assign (Operand.tmp 150), type := 4, pos := "low.go:656", after := #[{ on := 22, ground := Ground.data }, { on := 13, ground := Ground.chain }, { on := 0, ground := Ground.phase }, { on := 1, ground := Ground.phase }, { on := 2, ground := Ground.phase }, { on := 3, ground := Ground.phase }, { on := 4, ground := Ground.phase }, { on := 5, ground := Ground.phase }, { on := 6, ground := Ground.phase }, { on := 7, ground := Ground.phase }, { on := 8, ground := Ground.phase }, { on := 9, ground := Ground.phase }, { on := 10, ground := Ground.phase }, { on := 11, ground := Ground.phase }, { on := 12, ground := Ground.phase }, { on := 13, ground := Ground.phase }, { on := 14, ground := Ground.phase }, { on := 15, ground := Ground.phase }, { on := 16, ground := Ground.phase }, { on := 17, ground := Ground.phase }, { on := 18, ground := Ground.phase }, { on := 19, ground := Ground.phase }, { on := 20, ground := Ground.phase }, { on := 21, ground := Ground.phase }, { on := 22, ground := Ground.phase }], guard := Option.none }) (v := ?tv28) rfl (by kernel_rfl) (by kernel_rfl) (by kernel_rfl) (fun _ _ _ h => h) (Or.inl ⟨by rfl, ?ty28⟩) (by assumption) ?tr28; (case ty28 => (intro w hSw; (try dsimp only at hSw); go_simp; try (with_reducible rfl))); (try simp only [Act.put, List.setIfInBounds_toArray, List.set_cons_zero, List.set_cons_succ])
    refine wpAnyH_done (by kernel_rfl) ?_ _
    all_goals (first | (go_wp2; go_ret; exact ⟨rfl, bl_then hw5 (bl_of_drewN (n := 1) hb7)⟩) | (go_ret; exact ⟨rfl, bl_then hw5 (bl_of_drewN (n := 1) hb7)⟩))
theorem mirrorArms_walk (s : ByteArray) (k : Int) (hx : s.size ≤ maxLen) (_ : (Lit.int .i64 k).wf = true) (w : World) :
    Calls Try.prog 5 #[.string s, .int .i64 k] w fun e w' => e = .returned (.bool true) ∧ Below w.heap.size w w' := by
  by_cases hs : s.size ≤ 200
  · exact mirrorArms_ok s k w hs
  · exact mirrorArms_large s k w hx (by omega)
end Go.Proofs.Ytgeikpfbgdgciaa
