
/-
The contract of turn.Count.
-/
import Derived.Test.YtapjodbaaejldaaTGet
namespace Go.Proofs.Ytapjodbaaejldaa
open Go.RowKit

namespace Tm
/-- LOW and HIGH behind d bytes of the search. -/
def cs (t p : List UInt8) : Nat → Nat × Nat
  | 0 => (0, t.length)
  | d + 1 => if (cs t p d).1 < (cs t p d).2 then (sp t (Lm.bn p (p.length - 1 - d)) (cs t p d).1, sp t (Lm.bn p (p.length - 1 - d)) (cs t p d).2) else cs t p d
theorem cs_le (t p : List UInt8) : ∀ d, (cs t p d).1 ≤ (cs t p d).2 ∧ (cs t p d).2 ≤ t.length
  | 0 => ⟨Nat.zero_le _, Nat.le_refl _⟩
  | d + 1 => by
    have ih := cs_le t p d
    unfold cs
    split
    · exact ⟨sp_mono t _ ih.1 ih.2, sp_le t _ _ ih.2⟩
    · exact ih
theorem cs_stop (t p : List UInt8) {d : Nat} (h : ¬ (cs t p d).1 < (cs t p d).2) : ∀ e, cs t p (d + e) = cs t p d
  | 0 => rfl
  | e + 1 => by
    have ih := cs_stop t p h e
    show (if (cs t p (d + e)).1 < (cs t p (d + e)).2 then _ else cs t p (d + e)) = _
    rw [ih, if_neg h]
def csn (t p : List UInt8) : Nat := (cs t p p.length).2 - (cs t p p.length).1
end Tm
set_option maxRecDepth 100000 in
set_option maxHeartbeats 1000000 in
theorem Count_ok (t p : ByteArray) (w : World) (hs : t.size ≤ 200) (hp : p.size ≤ 200) :
    Calls Try.prog 51 #[.string t, .string p] w fun e w' => e = .returned (.tuple #[.int .i64 (Tm.csn (lst t) (lst p) : Int), .int .i64 0]) ∧ Below w.heap.size w w' := by
  have hu47 := Try.underlying121
  have hi47 : (Try.prog.info? 121).map (·.size) = some (lesL t).length := by rw [lesL_len]; kernel_rfl
  have hin : (Try.prog.info? 121).map (·.size) = some (lesA t).size := by rw [lesA_size]; kernel_rfl
  go_enter Try.func51, Try.ntmps51
  go_wp2_with fail
  with_reducible refine (check_ok t _ hs).mono ?_
  rintro e w1 ⟨rfl, rfl⟩
  go_wp2_with fail
  with_reducible refine (check_ok p _ hp).mono ?_
  rintro e w1 ⟨rfl, rfl⟩
  go_wp2_with fail
  with_reducible refine (lesser_any t _ hs).mono ?_
  rintro e w1 ⟨rfl, hb1⟩
  have ho := heap_alloc_new w1 (.cells Try.zeroCells121 121)
  have hoz : Try.zeroCells121.size = (lesA t).size := by rw [zero47, lesA_size]; simp [madeCells]
  have hRG := range_row t ho
  have hw2 := World.setRow_alloc_new w1 Try.zeroCells121 (lesA t) 121
  rw [hw2] at hRG
  have hbel2 := bl_then hb1 (bl_new w1 (.cells (lesA t) 121))
  have hsz2 : w1.heap.size < (w1.alloc (.cells (lesA t) 121)).heap.size := by simp
  have hone := lesA_one t
  have hNw := hb1.size
  go_wp2_with (first | (with_reducible refine wpList_store_row rfl 121 _ _ rfl w1.heap.size (lesA t) rfl rfl 121 Try.zeroCells121 ho hin hoz hone ?_; rw [hw2]))
  generalize w1.alloc (.cells (lesA t) 121) = w3 at *
  have HB3 := hid hbel2
  have HR3 := hid hRG
  have HZ3 := hid hsz2
  clear ho hoz hRG hw2 hbel2 hsz2 hone hin hb1
  generalize hLA : lesA t = LA
  clear hLA
  generalize w1.heap.size = N at *
  go_loopw [11, 9, 10] (fun x y v wr => ∃ (k lo hi : Nat) (z : Int), k ≤ p.size ∧ x = .int .i64 z ∧ y = .int .i64 (lo : Int) ∧ v = .int .i64 (hi : Int) ∧ z = (k : Int) - 1 ∧ lo ≤ hi ∧ hi ≤ t.size ∧ Hid ((lo, hi) = Tm.cs (lst t) (lst p) (p.size - k)) ∧ Hid (Below w.heap.size w wr) ∧ Hid (wr.rangeAt N 0 (lesL t)) ∧ Hid (N < wr.heap.size)) (fun x _ _ _ => ((intOf x) + 1).toNat)
  case atStart => exact ⟨p.size, 0, t.size, (p.size : Int) - 1, Nat.le_refl _, rfl, rfl, rfl, rfl, by omega, by omega, hid (by rw [Nat.sub_self, ← lst_len t]; rfl), HB3, HR3, HZ3⟩
  case round =>
    clear HB3 HR3 HZ3
    obtain ⟨k, lo, hi, z, hk, rfl, rfl, rfl, hz, hlh, hht, HA, HB, HG, HN⟩ := hrel
    have fin : (k = 0 ∨ ¬ lo < hi) → Hid (((hi - lo : Nat) : Int) = (Tm.csn (lst t) (lst p) : Int)) := by
      intro h
      have hA := HA.out
      refine congrArg Int.ofNat ?_
      unfold Tm.csn
      rw [lst_len]
      rcases h with h | h
      · rw [h, Nat.sub_zero] at hA
        rw [← hA]
      · have := Tm.cs_stop (lst t) (lst p) (d := p.size - k) (by rw [← hA]; exact h) k
        rw [Nat.sub_add_cancel hk] at this
        rw [this, ← hA]
    by_cases hk0 : 0 < k
    · obtain ⟨k1, hk1⟩ : ∃ k1, k = k1 + 1 := ⟨k - 1, by omega⟩
      obtain rfl : z = (k1 : Int) := by omega
      have hz2 : decide ((0 : Int) ≤ (k1 : Int)) = true := decide_eq_true (by omega)
      by_cases hlo : lo < hi
      · have hlo' : (lo : Int) < (hi : Int) := by omega
        have hk1p : k1 < p.size := by omega
        have hk1p' : (k1 : Int) < (p.size : Int) := by omega
        have hbt : p[k1].toNat < 256 := p[k1].toNat_lt
        have HC1 := hid (fun W => step_call t p[k1].toNat lo W hs hbt (by omega))
        have HC2 := hid (fun W => step_call t p[k1].toNat hi W hs hbt (by omega))
        have hA2 : (Tm.sp (lst t) p[k1].toNat lo, Tm.sp (lst t) p[k1].toNat hi) = Tm.cs (lst t) (lst p) (p.size - k1) := by
          rw [show p.size - k1 = p.size - k + 1 by omega]
          unfold Tm.cs
          rw [← HA.out, if_pos hlo, lst_len, show p.size - 1 - (p.size - k) = k1 by omega, bn_byte hk1p]
        have hmono := Tm.sp_mono (lst t) p[k1].toNat (m := lo) (k := hi) (by omega) (by rw [lst_len]; exact hht)
        have hle := Tm.sp_le (lst t) p[k1].toNat hi (by rw [lst_len]; exact hht)
        rw [lst_len] at hle
        generalize Tm.sp (lst t) p[k1].toNat lo = lo2 at *
        generalize Tm.sp (lst t) p[k1].toNat hi = hi2 at *
        have hRG := HG.out
        have hNb := HN.out
        have HA2 := hid hA2
        have HKK := hid hk1
        clear HA HG HN hk1 hz hA2 fin
        go_wp2
        refine wp_region_held_drew (S := fun W => W.rangeAt N 0 (lesL t)) (by kernel_rfl) hRG (fun hHeld => ?_)
        refine wpAnyH_take (i := 0) (oi := { dst := some 38, op := Op.move (Operand.tmp 0), type := 9, pos := "turn.go:50", after := #[], guard := none }) (v := .string t) rfl (by kernel_rfl) (by kernel_rfl) (by kernel_rfl) (fun _ _ _ h => h) (Or.inl ⟨by rfl, fun w hSw => ?_⟩) hHeld ?_
        · go_simp
        simp only [Act.put, List.setIfInBounds_toArray, List.set_cons_zero, List.set_cons_succ]
        refine wpAnyH_take (i := 1) (oi := { dst := some 39, op := Op.load 121 (Operand.tmp 8), type := 121, pos := "turn.go:50", after := #[], guard := none }) (v := .agg (lesL t).toArray) rfl (by kernel_rfl) (by kernel_rfl) (by kernel_rfl) (fun _ _ _ h => h) (yieldsIf_load_mid (by rfl) _ _ rfl N 0 rfl (lesL t) _ (fun w h => h) hu47 rfl hi47) hHeld ?_
        simp only [Act.put, List.setIfInBounds_toArray, List.set_cons_zero, List.set_cons_succ]
        refine wpAnyH_take (i := 2) (oi := { dst := some 40, op := Op.move (Operand.tmp 1), type := 9, pos := "turn.go:50", after := #[], guard := none }) (v := .string p) rfl (by kernel_rfl) (by kernel_rfl) (by kernel_rfl) (fun _ _ _ h => h) (Or.inl ⟨by rfl, fun w hSw => ?_⟩) hHeld ?_
        · go_simp
        simp only [Act.put, List.setIfInBounds_toArray, List.set_cons_zero, List.set_cons_succ]
        refine wpAnyH_take (i := 3) (oi := { dst := some 41, op := Op.move (Operand.tmp 11), type := 3, pos := "turn.go:50", after := #[], guard := none }) (v := .int .i64 (k1 : Int)) rfl (by kernel_rfl) (by kernel_rfl) (by kernel_rfl) (fun _ _ _ h => h) (Or.inl ⟨by rfl, fun w hSw => ?_⟩) hHeld ?_
        · go_simp
        simp only [Act.put, List.setIfInBounds_toArray, List.set_cons_zero, List.set_cons_succ]
        refine wpAnyH_take (i := 4) (oi := { dst := some 42, op := Op.index 9 (Operand.tmp 40) (Operand.tmp 41), type := 5, pos := "turn.go:50", after := #[{ on := 2, ground := Ground.data }, { on := 3, ground := Ground.data }], guard := none }) (v := .int .u8 (p[k1].toNat : Int)) rfl (by kernel_rfl) (by kernel_rfl) (by kernel_rfl) (fun _ _ _ h => h) (Or.inl ⟨by rfl, fun w hSw => ?_⟩) hHeld ?_
        · go_simp
        simp only [Act.put, List.setIfInBounds_toArray, List.set_cons_zero, List.set_cons_succ]
        refine wpAnyH_take (i := 5) (oi := { dst := some 43, op := Op.move (Operand.tmp 9), type := 3, pos := "turn.go:50", after := #[], guard := none }) (v := .int .i64 (lo : Int)) rfl (by kernel_rfl) (by kernel_rfl) (by kernel_rfl) (fun _ _ _ h => h) (Or.inl ⟨by rfl, fun w hSw => ?_⟩) hHeld ?_
        · go_simp
        simp only [Act.put, List.setIfInBounds_toArray, List.set_cons_zero, List.set_cons_succ]
        refine wpAnyH_take (i := 7) (oi := { dst := some 45, op := Op.move (Operand.tmp 0), type := 9, pos := "turn.go:50", after := #[], guard := none }) (v := .string t) rfl (by kernel_rfl) (by kernel_rfl) (by kernel_rfl) (fun _ _ _ h => h) (Or.inl ⟨by rfl, fun w hSw => ?_⟩) hHeld ?_
        · go_simp
        simp only [Act.put, List.setIfInBounds_toArray, List.set_cons_zero, List.set_cons_succ]
        refine wpAnyH_take (i := 8) (oi := { dst := some 46, op := Op.load 121 (Operand.tmp 8), type := 121, pos := "turn.go:50", after := #[], guard := none }) (v := .agg (lesL t).toArray) rfl (by kernel_rfl) (by kernel_rfl) (by kernel_rfl) (fun _ _ _ h => h) (yieldsIf_load_mid (by rfl) _ _ rfl N 0 rfl (lesL t) _ (fun w h => h) hu47 rfl hi47) hHeld ?_
        simp only [Act.put, List.setIfInBounds_toArray, List.set_cons_zero, List.set_cons_succ]
        refine wpAnyH_take (i := 9) (oi := { dst := some 47, op := Op.move (Operand.tmp 1), type := 9, pos := "turn.go:50", after := #[], guard := none }) (v := .string p) rfl (by kernel_rfl) (by kernel_rfl) (by kernel_rfl) (fun _ _ _ h => h) (Or.inl ⟨by rfl, fun w hSw => ?_⟩) hHeld ?_
        · go_simp
        simp only [Act.put, List.setIfInBounds_toArray, List.set_cons_zero, List.set_cons_succ]
        refine wpAnyH_take (i := 10) (oi := { dst := some 48, op := Op.move (Operand.tmp 11), type := 3, pos := "turn.go:50", after := #[], guard := none }) (v := .int .i64 (k1 : Int)) rfl (by kernel_rfl) (by kernel_rfl) (by kernel_rfl) (fun _ _ _ h => h) (Or.inl ⟨by rfl, fun w hSw => ?_⟩) hHeld ?_
        · go_simp
        simp only [Act.put, List.setIfInBounds_toArray, List.set_cons_zero, List.set_cons_succ]
        refine wpAnyH_take (i := 11) (oi := { dst := some 49, op := Op.index 9 (Operand.tmp 47) (Operand.tmp 48), type := 5, pos := "turn.go:50", after := #[{ on := 9, ground := Ground.data }, { on := 10, ground := Ground.data }], guard := none }) (v := .int .u8 (p[k1].toNat : Int)) rfl (by kernel_rfl) (by kernel_rfl) (by kernel_rfl) (fun _ _ _ h => h) (Or.inl ⟨by rfl, fun w hSw => ?_⟩) hHeld ?_
        · go_simp
        simp only [Act.put, List.setIfInBounds_toArray, List.set_cons_zero, List.set_cons_succ]
        refine wpAnyH_take (i := 12) (oi := { dst := some 50, op := Op.move (Operand.tmp 10), type := 3, pos := "turn.go:50", after := #[], guard := none }) (v := .int .i64 (hi : Int)) rfl (by kernel_rfl) (by kernel_rfl) (by kernel_rfl) (fun _ _ _ h => h) (Or.inl ⟨by rfl, fun w hSw => ?_⟩) hHeld ?_
        · go_simp
        simp only [Act.put, List.setIfInBounds_toArray, List.set_cons_zero, List.set_cons_succ]
        refine wpAnyH_ready (rs := [6]) (by kernel_rfl) (by simp) ?_
        refine AllReadyH.cons (o := { dst := some 44, op := Op.call { callee := Callee.value (Operand.func 96), args := #[Operand.tmp 38, Operand.tmp 39, Operand.tmp 42, Operand.tmp 43], argTypes := #[9, 121, 5, 3] }, type := 3, pos := "turn.go:50", after := #[{ on := 0, ground := Ground.data }, { on := 1, ground := Ground.data }, { on := 4, ground := Ground.data }, { on := 5, ground := Ground.data }], guard := none }) rfl (fun K hK => ?_) AllReadyH.nil
        go_simp
        with_reducible refine (HC1.out _).mono ?_
        rintro e w8 ⟨rfl, hb8⟩
        have hS8 : w8.rangeAt N 0 (lesL t) := range_keep2 hb8 hRG hNb
        have hN8 : N < w8.heap.size := Nat.lt_of_lt_of_le hNb hb8.size
        have HB8 := hid hb8
        clear hb8
        refine hK.out _ _ hS8 (fun hHeld => ?_)
        clear hK K
        refine wpAnyH_ready (rs := [13]) (by kernel_rfl) (by simp) ?_
        refine AllReadyH.cons (o := { dst := some 51, op := Op.call { callee := Callee.value (Operand.func 96), args := #[Operand.tmp 45, Operand.tmp 46, Operand.tmp 49, Operand.tmp 50], argTypes := #[9, 121, 5, 3] }, type := 3, pos := "turn.go:50", after := #[{ on := 7, ground := Ground.data }, { on := 8, ground := Ground.data }, { on := 11, ground := Ground.data }, { on := 12, ground := Ground.data }, { on := 6, ground := Ground.chain }], guard := none }) rfl (fun K hK => ?_) AllReadyH.nil
        go_simp
        with_reducible refine (HC2.out _).mono ?_
        rintro e w9 ⟨rfl, hb9⟩
        have hS9 : w9.rangeAt N 0 (lesL t) := range_keep2 hb9 hS8 hN8
        have HN9 := hid (show N < w9.heap.size from Nat.lt_of_lt_of_le hN8 hb9.size)
        have HB9 := hid hb9
        clear hb9
        refine hK.out _ _ hS9 (fun hHeld => ?_)
        clear hK K
        refine wpAnyH_take (i := 14) (oi := { dst := some 9, op := Op.assign (Operand.tmp 44), type := 3, pos := "turn.go:50", after := #[{ on := 6, ground := Ground.data }, { on := 13, ground := Ground.chain }, { on := 0, ground := Ground.phase }, { on := 1, ground := Ground.phase }, { on := 2, ground := Ground.phase }, { on := 3, ground := Ground.phase }, { on := 4, ground := Ground.phase }, { on := 5, ground := Ground.phase }, { on := 6, ground := Ground.phase }, { on := 7, ground := Ground.textOnly Departure.lateStores }, { on := 8, ground := Ground.textOnly Departure.lateStores }, { on := 9, ground := Ground.textOnly Departure.lateStores }, { on := 10, ground := Ground.textOnly Departure.lateStores }, { on := 11, ground := Ground.textOnly Departure.lateStores }, { on := 12, ground := Ground.textOnly Departure.lateStores }, { on := 13, ground := Ground.textOnly Departure.lateStoresUnsure }], guard := none }) (v := .int .i64 (lo2 : Int)) rfl (by kernel_rfl) (by kernel_rfl) (by kernel_rfl) (fun _ _ _ h => h) (Or.inl ⟨by rfl, fun w hSw => ?_⟩) hHeld ?_
        · go_simp
        simp only [Act.put, List.setIfInBounds_toArray, List.set_cons_zero, List.set_cons_succ]
        refine wpAnyH_take (i := 15) (oi := { dst := some 10, op := Op.assign (Operand.tmp 51), type := 3, pos := "turn.go:50", after := #[{ on := 13, ground := Ground.data }, { on := 14, ground := Ground.chain }, { on := 0, ground := Ground.phase }, { on := 1, ground := Ground.phase }, { on := 2, ground := Ground.phase }, { on := 3, ground := Ground.phase }, { on := 4, ground := Ground.phase }, { on := 5, ground := Ground.phase }, { on := 6, ground := Ground.phase }, { on := 7, ground := Ground.phase }, { on := 8, ground := Ground.phase }, { on := 9, ground := Ground.phase }, { on := 10, ground := Ground.phase }, { on := 11, ground := Ground.phase }, { on := 12, ground := Ground.phase }, { on := 13, ground := Ground.phase }, { on := 14, ground := Ground.phase }], guard := none }) (v := .int .i64 (hi2 : Int)) rfl (by kernel_rfl) (by kernel_rfl) (by kernel_rfl) (fun _ _ _ h => h) (Or.inl ⟨by rfl, fun w hSw => ?_⟩) hHeld ?_
        · go_simp
        simp only [Act.put, List.setIfInBounds_toArray, List.set_cons_zero, List.set_cons_succ]
        refine wpAnyH_done (by kernel_rfl) ?_ _
        go_wp2
        go_roundw
        case measure => simp [intOf]
        case rel =>
          have hk := HKK.out
          exact ⟨k1, lo2, hi2, (k1 : Int) - 1, by omega, rfl, rfl, rfl, rfl, hmono, hle, HA2, hid (bl_then (bl_then HB.out.drew HB8.out) HB9.out), hid ‹_›, HN9⟩
      · have hlo' : decide ((lo : Int) < (hi : Int)) = false := decide_eq_false (by omega)
        have HF := fin (.inr hlo)
        have eh : (hi : Int) - (lo : Int) = ((hi - lo : Nat) : Int) := by omega
        obtain ⟨r, hr⟩ : ∃ r, r = hi - lo := ⟨_, rfl⟩
        rw [← hr] at HF eh
        have hrb : r ≤ 200 := by omega
        clear fin HA HG HN hz hr
        go_wp2
        go_ret2
        exact ⟨by rw [← HF.out]; rfl, HB.out⟩
    · obtain rfl : k = 0 := by omega
      have hzd : decide ((0 : Int) ≤ z) = false := decide_eq_false (by omega)
      have HF := fin (.inl rfl)
      have eh : (hi : Int) - (lo : Int) = ((hi - lo : Nat) : Int) := by omega
      obtain ⟨r, hr⟩ : ∃ r, r = hi - lo := ⟨_, rfl⟩
      rw [← hr] at HF eh
      have hrb : r ≤ 200 := by omega
      clear fin HA HG HN hz hr
      go_wp2
      go_ret2
      exact ⟨by rw [← HF.out]; rfl, HB.out⟩
theorem Count_t_large (t p : ByteArray) (w : World) (hs : 200 < t.size) : Calls Try.prog 51 #[.string t, .string p] w fun e w' => e = .returned (.tuple #[.int .i64 0, .int .i64 2]) ∧ w = w' := by
  go_enter Try.func51, Try.ntmps51
  go_wp2_with fail
  with_reducible refine (check_large t _ hs).mono ?_
  rintro e w1 ⟨rfl, rfl⟩
  go_wp2
  go_ret2
  exact ⟨rfl, rfl⟩
theorem Count_p_large (t p : ByteArray) (w : World) (hs : t.size ≤ 200) (hp : 200 < p.size) : Calls Try.prog 51 #[.string t, .string p] w fun e w' => e = .returned (.tuple #[.int .i64 0, .int .i64 2]) ∧ w = w' := by
  go_enter Try.func51, Try.ntmps51
  go_wp2_with fail
  with_reducible refine (check_ok t _ hs).mono ?_
  rintro e w1 ⟨rfl, rfl⟩
  go_wp2_with fail
  with_reducible refine (check_large p _ hp).mono ?_
  rintro e w1 ⟨rfl, rfl⟩
  go_wp2
  go_ret2
  exact ⟨rfl, rfl⟩
end Go.Proofs.Ytapjodbaaejldaa
