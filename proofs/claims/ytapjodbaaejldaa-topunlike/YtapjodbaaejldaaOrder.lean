
/-
The contracts of suffix.order, suffix.Order and suffix.Common.
-/
import Derived.Test.YtapjodbaaejldaaShared
import Derived.Test.YtapjodbaaejldaaShelfO
import Derived.Sort.OwnSortedInts
namespace Go.Proofs.Ytapjodbaaejldaa
open Go.RowKit

theorem scmp_neg : ∀ a b : List UInt8, Lib.compareBytes a b < 0 ↔ a < b
  | [], [] => by simp [Lib.compareBytes]
  | [], c :: b => by simp [Lib.compareBytes]
  | c :: a, [] => by simp [Lib.compareBytes]
  | c :: a, e :: b => by
    rw [Sm.cons_lt, Lib.compareBytes]
    by_cases h1 : c < e
    · simp [h1]
    · by_cases h2 : e < c
      · have h3 : c ≠ e := by rintro rfl; exact h1 h2
        simp [h1, h2, h3]
      · obtain rfl := Sm.u8_tri h1 h2
        simp [scmp_neg a b]
/-- How suffix.order compares two places of s. -/
def cfS (s : ByteArray) (m : Nat) (x y : Fin (m + 1)) : Int := Lib.compareBytes ((lst s).drop x.val) ((lst s).drop y.val)
theorem lt_cfS (s : ByteArray) (m : Nat) (x y : Fin (m + 1)) : ltOf (cfS s m) x y = decide ((lst s).drop x.val < (lst s).drop y.val) := by
  unfold ltOf cfS
  rw [decide_eq_decide]
  exact scmp_neg _ _
theorem swo_cfS (s : ByteArray) (m : Nat) : Sort.SWO (ltOf (cfS s m)) where
  irrefl x := by rw [lt_cfS]; exact decide_eq_false (Lm.irr _)
  trans x y z h1 h2 := by
    rw [lt_cfS, decide_eq_true_eq] at *
    exact Lm.lt_tr h1 h2
  ntrans x y z h1 h2 := by
    rw [lt_cfS, decide_eq_false_iff_not] at *
    exact Lm.le_tr h2 h1
theorem tot_cfS (s : ByteArray) (m : Nat) (hm : s.size = m + 1) (x y : Fin (m + 1)) (h1 : ltOf (cfS s m) x y = false) (h2 : ltOf (cfS s m) y x = false) : x = y := by
  rw [lt_cfS, decide_eq_false_iff_not] at *
  exact Fin.ext (Sm.drop_inj (by rw [lst_len]; omega) (by rw [lst_len]; omega) (Sm.tri h1 h2))
theorem sorder1 (s : ByteArray) (x y B : Nat) (w : World) (hx : x ≤ s.size) (hy : y ≤ s.size) (hc : w.cell? ⟨B, 0, none⟩ = some (.string s)) :
    Calls Try.prog 127 #[.int .i64 (x : Int), .int .i64 (y : Int), .pointer (some ⟨B, 0, none⟩)] w fun e w' => e = .returned (.int .i64 (Lib.compareBytes ((lst s).drop x) ((lst s).drop y))) ∧ Drew w w' := by
  have hC := fun W => Try.strings_Compare (s.extract x s.size) (s.extract y s.size) W
  have e1 : Lib.compareBytes (s.extract x s.size).data.toList (s.extract y s.size).data.toList = Lib.compareBytes ((lst s).drop x) ((lst s).drop y) := by rw [← lst_drop, ← lst_drop]; rfl
  rw [e1] at hC
  generalize Lib.compareBytes ((lst s).drop x) ((lst s).drop y) = r at hC
  clear e1
  have hx' : (x : Int) ≤ (s.size : Int) := by omega
  have hy' : (y : Int) ≤ (s.size : Int) := by omega
  go_enter Try.func127, Try.ntmps127
  go_wp2
  go_region_held3 (fun W => W.cell? ⟨B, 0, none⟩ = some (.string s)) (first | exact hc) (first | (go_at_call 128; (with_reducible refine (hC _).mono ?_); rintro e w2 ⟨rfl, rfl⟩))
  go_wp2
  go_ret
  exact ⟨rfl, Drew.is_ _ _⟩
/-- What a sorted row holds. -/
theorem rowIs_sorted {α : Type} [Inhabited α] (enc : α → Value) {w : World} {b n : Nat} {t : TypeId} {f : Nat → Value} (h : w.rowIs b t n f) (d : Array α) (hd : d.size = n) (k : Nat) (os : Array Obj) :
    (sortWorld enc w b 0 k d os).rowIs b t n (fun i => enc d[i]!) := by
  obtain ⟨c, h1, h2, h3⟩ := h
  have hg : b < w.heap.size := (Array.getElem?_eq_some_iff.1 h1).1
  refine ⟨Sort.putCells enc 0 d c, ?_, by simp [Sort.putCells, h2], fun i hi => ?_⟩
  · unfold sortWorld
    rw [Sort.heap_grow_old _ _ (by simpa using hg)]
    simp [Sort.putRow, Sort.mapBlock, Sort.ahead, Array.getElem?_modify, h1, Sort.onCells]
  · have hc : i < c.size := by omega
    have hi2 : i < d.size := by omega
    simp [Sort.putCells, hc, hi2]
theorem below_sorted {α : Type} [Inhabited α] (enc : α → Value) {w : World} {b base : Nat} (hb : base ≤ b) (hb2 : base ≤ w.heap.size) (d : Array α) (k : Nat) (os : Array Obj) : Below base w (sortWorld enc w b 0 k d os) := by
  have hg : w.grownBy (sortWorld enc w b 0 k d os) (some b) := by
    refine ⟨rfl, rfl, rfl, by simp [sortWorld], fun j hj hne => ?_⟩
    unfold sortWorld
    rw [Sort.heap_grow_old _ _ (by simpa using hj)]
    have : b ≠ j := fun e => hne (by rw [e])
    simp [Sort.putRow, Sort.mapBlock, Sort.ahead, Array.getElem?_modify, this]
  exact (Below.refl base w).grown hg hb2 fun k hk => by injection hk with hk; omega
def encF (m : Nat) (x : Fin (m + 1)) : Value := .int .i64 (x.val : Int)
theorem cmps (s : ByteArray) (m N b : Nat) (w : World) (hm : s.size = m + 1) (hc : w.cell? ⟨N, 0, none⟩ = some (.string s)) (hN : N < w.heap.size) (hne : N ≠ b) (n : Nat) :
    CmpLays1 Try.prog 127 #[.pointer (some ⟨N, 0, none⟩)] (encF m) (cfS s m) b 0 n w := by
  intro q os dk _ x y
  refine (sorder1 s x.val y.val N _ (by omega) (by omega) ?_).mono ?_
  · unfold sortWorld
    rw [Sort.cell?_grow _ _ _ (by simpa using hN), Sort.cell?_putRow_other _ _ _ _ _ _ (.inl hne)]
    exact hc
  · rintro e w' ⟨rfl, k, rfl⟩
    exact ⟨rfl, k, #[], by rw [Sort.grow_empty]⟩
/-- The places in order, as the sort leaves them. -/
theorem sorted_sa (s : ByteArray) (m : Nat) (hm : s.size = m + 1) (d : Array (Fin (m + 1))) (hd : d.toList = List.finRange (m + 1)) :
    ((d.toList.mergeSort fun x y => !(ltOf (cfS s m)) y x).map Fin.val) = Sm.saL (lst s) := by
  rw [hd]
  have hp := List.mergeSort_perm (List.finRange (m + 1)) (fun x y => !(ltOf (cfS s m)) y x)
  refine Sm.SA.unique ⟨?_, ?_⟩ (Sm.saL_sa _)
  · refine (hp.map Fin.val).trans ?_
    rw [lst_len, hm]
    refine List.Perm.of_eq ?_
    refine List.ext_getElem (by simp) fun i h1 h2 => by simp
  · rw [List.pairwise_map]
    have hs := List.pairwise_mergeSort (le := fun x y => !(ltOf (cfS s m)) y x) (fun a b c h1 h2 => by
      rw [Bool.not_eq_true', lt_cfS, decide_eq_false_iff_not] at *
      exact Lm.le_tr h1 h2) (fun a b => by
      rw [Bool.or_eq_true, Bool.not_eq_true', Bool.not_eq_true', lt_cfS, lt_cfS, decide_eq_false_iff_not, decide_eq_false_iff_not]
      by_cases h : (lst s).drop b.val < (lst s).drop a.val
      · exact .inr (Sm.as_ h)
      · exact .inl h) (List.finRange (m + 1))
    have hn : (List.finRange (m + 1)).Pairwise (· ≠ ·) := by
      rw [List.pairwise_iff_getElem]
      intro i j hi hj hij e
      have := congrArg Fin.val e
      simp at this
      omega
    have hd' := (hp.pairwise_iff (fun h => Ne.symm h)).2 hn
    refine (hs.and hd').imp ?_
    rintro a b ⟨h1, h2⟩
    rw [Bool.not_eq_true', lt_cfS, decide_eq_false_iff_not] at h1
    by_cases h : (lst s).drop a.val < (lst s).drop b.val
    · exact h
    · exact absurd (Fin.ext (Sm.drop_inj (by rw [lst_len]; omega) (by rw [lst_len]; omega) (Sm.tri h h1))) h2
set_option maxHeartbeats 400000 in
theorem order_some (s : ByteArray) (m : Nat) (w : World) (hm : s.size = m + 1) (hs : s.size ≤ 200) :
    Calls Try.prog 94 #[.string s] w fun e w' => e = .returned (.slice (some ⟨w.heap.size + 1, 0, none⟩) s.size s.size) ∧ w'.rowIs (w.heap.size + 1) 3 s.size (fun k => .int .i64 (sg s k)) ∧ Below w.heap.size w w' := by
  have hmk := run_make_row' (P := Try.prog) 53 3 (.int .i64 0) 8 Try.underlying53 Try.infoInt rfl .i64 .i64 s.size (by omega) (by omega) (w.alloc (.cells #[.string s] 9))
  have hmade := World.rowIs_made (w.alloc (.cells #[.string s] 9)) (.int .i64 0) s.size 3
  have hb0 := bl_then (bl_new w (.cells #[.string s] 9)) (bl_new (w.alloc (.cells #[.string s] 9)) (.cells (madeCells #[.int .i64 0] s.size) 3))
  have hbox : ((w.alloc (.cells #[.string s] 9)).alloc (.cells (madeCells #[.int .i64 0] s.size) 3)).cell? ⟨w.heap.size, 0, none⟩ = some (.string s) := by simp
  have hsz0 : (w.alloc (.cells #[.string s] 9)).heap.size = w.heap.size + 1 := by simp
  rw [hsz0] at hmade hmk
  have hbox1 : (w.alloc (.cells #[.string s] 9)).cell? ⟨w.heap.size, 0, none⟩ = some (.string s) := by simp
  generalize (w.alloc (.cells #[.string s] 9)).alloc (.cells (madeCells #[.int .i64 0] s.size) 3) = w0 at hmk hmade hb0 hbox
  have R0 : Hid (w0.rowIs (w.heap.size + 1) 3 s.size (fun j => .int .i64 (fillG (fun k => (k : Int)) 0 j))) := hmade.congr fun j _ => by
    unfold fillG
    rw [if_neg (by omega)]
  have HM := hid hm
  clear hmade hm
  go_enter Try.func94, Try.ntmps94
  go_wp2
  go_loopw [10] (fun x wr => ∃ i : Nat, i ≤ s.size ∧ x = .int .i64 i ∧ wr.rowIs (w.heap.size + 1) 3 s.size (fun j => .int .i64 (fillG (fun k => (k : Int)) i j)) ∧ Below w.heap.size w wr ∧ wr.cell? ⟨w.heap.size, 0, none⟩ = some (.string s)) (fun x _ => s.size - (intOf x).toNat)
  case atStart => exact ⟨0, by omega, rfl, R0.out, hb0, hbox⟩
  case round =>
    clear R0 hb0 hmk hbox hbox1
    obtain ⟨i, hi, rfl, hrow, hbel, hbx⟩ := hrel
    by_cases hlt : i < s.size
    · have hlt' : (i : Int) < (s.size : Int) := by omega
      have hroom := hrow.frozen i
      have hci : wr.cell? ⟨w.heap.size + 1, i, none⟩ = some (.int .i64 (fillG (fun k => (k : Int)) i i)) := hrow.cell hlt
      have hz := hrow.lt
      have R := hid (fill_store (v := (i : Int)) hrow hbel (Nat.le_succ _) rfl 0)
      have RB : Hid ((wr.setCell ⟨w.heap.size + 1, i, none⟩ (.int .i64 (i : Int))).cell? ⟨w.heap.size, 0, none⟩ = some (.string s)) := (((Below.refl (w.heap.size + 1) wr).setCell (Nat.le_refl _) _).cell (p := ⟨w.heap.size, 0, none⟩) (Nat.lt_succ_self _)).trans hbx
      clear hrow hbel
      go_wp2
      go_roundw
      case rel => exact ⟨i + 1, by omega, by go_num, R.out.1, R.out.2, RB.out⟩
      case measure => simp [intOf]; omega
    · obtain ⟨d, hd⟩ : ∃ d : Array (Fin (m + 1)), d.toList = List.finRange (m + 1) := ⟨(List.finRange (m + 1)).toArray, rfl⟩
      have hds : d.size = s.size := by rw [HM.out, ← Array.length_toList, hd, List.length_finRange]
      have hH : Sort.Holds (encF m) wr (w.heap.size + 1) 0 d := by
        intro j hj
        refine ⟨?_, hrow.frozen _⟩
        rw [Nat.zero_add, hrow.cell (i := j) (by omega), fillG_lt (by omega)]
        have e : d[j]! = (d.toList)[j]'(by simpa using hj) := by simp [hj]
        have e2 : (d[j]!).val = j := by rw [e]; simp [hd]
        unfold encF
        rw [e2]
      have hS := Try.slices_SortFunc_total (encF m) (fun _ => rfl) (cfS s m) (swo_cfS s m) 127 #[.pointer (some ⟨w.heap.size, 0, none⟩)] (w.heap.size + 1) 0 s.size d wr (enters_of Try.func127 (by kernel_rfl) rfl) (cmps s m w.heap.size (w.heap.size + 1) wr HM.out hbx (by have := hbel.size; have := hrow.lt; omega) (by omega) _) hH hrow.lt (by omega) (tot_cfS s m HM.out)
      rw [hds] at hS
      have hsa := sorted_sa s m HM.out d hd
      have hlen : (d.toList.mergeSort fun x y => !(ltOf (cfS s m)) y x).length = s.size := by rw [(List.mergeSort_perm _ _).length_eq, Array.length_toList, hds]
      generalize (d.toList.mergeSort fun x y => !(ltOf (cfS s m)) y x) = L at hS hsa hlen
      have HS := hid hS
      have HR := hid (fun n os => rowIs_sorted (encF m) hrow L.toArray (by simpa using hlen) n os)
      have HB := hid (fun n os => hbel.trans (below_sorted (encF m) (base := w.heap.size) (b := w.heap.size + 1) (by omega) (by have := hbel.size; omega) L.toArray n os))
      have HL : Hid (∀ k, k < s.size → encF m (L.toArray[k]!) = .int .i64 (sg s k)) := by
        intro k hk
        unfold encF sg Sm.sa
        rw [← hsa]
        have hk' : k < L.length := by omega
        simp [hk', List.getD_eq_getElem?_getD]
      clear hS hsa hH hrow hbel hd hds hlen
      go_wp2_with fail
      with_reducible refine HS.out.mono ?_
      rintro e w2 ⟨rfl, n, os, rfl⟩
      go_wp2
      go_ret
      exact ⟨rfl, (HR.out n os).congr HL.out, HB.out n os⟩
theorem order_none (s : ByteArray) (w : World) (hz : s.size = 0) :
    Calls Try.prog 94 #[.string s] w fun e w' => e = .returned (.slice (some ⟨w.heap.size + 1, 0, none⟩) s.size s.size) ∧ w'.rowIs (w.heap.size + 1) 3 s.size (fun k => .int .i64 (sg s k)) ∧ Below w.heap.size w w' := by
  have hmk := run_make_row' (P := Try.prog) 53 3 (.int .i64 0) 8 Try.underlying53 Try.infoInt rfl .i64 .i64 s.size (by omega) (by omega) (w.alloc (.cells #[.string s] 9))
  have hmade := World.rowIs_made (w.alloc (.cells #[.string s] 9)) (.int .i64 0) s.size 3
  have hb0 := bl_then (bl_new w (.cells #[.string s] 9)) (bl_new (w.alloc (.cells #[.string s] 9)) (.cells (madeCells #[.int .i64 0] s.size) 3))
  have hsz0 : (w.alloc (.cells #[.string s] 9)).heap.size = w.heap.size + 1 := by simp
  rw [hsz0] at hmade hmk
  have hbox1 : (w.alloc (.cells #[.string s] 9)).cell? ⟨w.heap.size, 0, none⟩ = some (.string s) := by simp
  generalize (w.alloc (.cells #[.string s] 9)).alloc (.cells (madeCells #[.int .i64 0] s.size) 3) = w0 at hmk hmade hb0
  have hN : ∀ p c fv W, Calls Try.prog 126 #[.slice p s.size c, fv] W fun e w' => e = .returned (.tuple #[]) ∧ w' = W := by
    intro p c fv W
    rw [hz]
    exact Try.slices_SortFunc_none (α := Nat) p c fv W
  have HZ := hid hz
  have HR := hid hmade
  have hz0 : decide ((0 : Int) < (s.size : Int)) = false := decide_eq_false (by omega)
  have hz1 : decide (0 < s.size) = false := decide_eq_false (by omega)
  clear hz hmade
  go_enter Try.func94, Try.ntmps94
  go_wp2
  go_loopw [10] (fun x wr => x = .int .i64 0 ∧ wr = w0) (fun _ _ => 0)
  case atStart => exact ⟨rfl, rfl⟩
  case round =>
    obtain ⟨rfl, rfl⟩ := hrel
    go_wp2_with fail
    with_reducible refine (hN _ _ _ _).mono ?_
    rintro e w2 ⟨rfl, rfl⟩
    go_wp2
    go_ret
    exact ⟨rfl, HR.out.congr fun k hk => absurd hk (by have := HZ.out; omega), hb0⟩
theorem sorder_any (s : ByteArray) (w : World) (hs : s.size ≤ 200) :
    Calls Try.prog 94 #[.string s] w fun e w' => e = .returned (.slice (some ⟨w.heap.size + 1, 0, none⟩) s.size s.size) ∧ w'.rowIs (w.heap.size + 1) 3 s.size (fun k => .int .i64 (sg s k)) ∧ Below w.heap.size w w' := by
  rcases Nat.eq_zero_or_pos s.size with h | h
  · exact order_none s w h
  · exact order_some s (s.size - 1) w (by omega) hs
/-- A row of numbers is read. -/
theorem irow_of {w : World} {b n : Nat} {g : Nat → Int} (h : w.rowIs b 3 n (fun k => .int .i64 (g k))) : IRow w (some ⟨b, 0, none⟩) n g := fun k hk => ⟨b, 0, rfl, h.lt, by rw [Nat.zero_add]; exact h.cell hk⟩
/-- A slice of n numbers in new memory, all its places, and no error. -/
def RowOk (n : Nat) (g : Nat → Int) (w : World) (e : Ending) (w' : World) : Prop :=
  ∃ B, e = .returned (.tuple #[.slice (some ⟨B, 0, none⟩) n n, .int .i64 0]) ∧ w.heap.size ≤ B ∧ w'.rowIs B 3 n (fun k => .int .i64 (g k)) ∧ Below w.heap.size w w'
theorem Order_ok (s : ByteArray) (w : World) (hs : s.size ≤ 200) : Calls Try.prog 50 #[.string s] w (RowOk s.size (sg s) w) := by
  go_enter Try.func50, Try.ntmps50
  go_wp2_with fail
  with_reducible refine (check_ok s _ hs).mono ?_
  rintro e w1 ⟨rfl, rfl⟩
  go_wp2_with fail
  with_reducible refine (sorder_any s _ hs).mono ?_
  rintro e w1 ⟨rfl, hrow, hbel⟩
  have HR := hid hrow
  clear hrow
  go_wp2
  go_ret2
  exact ⟨_, rfl, by omega, HR.out, hbel⟩
theorem Order_large (s : ByteArray) (w : World) (hs : 200 < s.size) :
    Calls Try.prog 50 #[.string s] w fun e w' => e = .returned (.tuple #[.slice none 0 0, .int .i64 2]) ∧ w = w' := by
  go_enter Try.func50, Try.ntmps50
  go_wp2_with fail
  with_reducible refine (check_large s _ hs).mono ?_
  rintro e w1 ⟨rfl, rfl⟩
  go_wp2
  go_ret2
  exact ⟨rfl, rfl⟩
end Go.Proofs.Ytapjodbaaejldaa
