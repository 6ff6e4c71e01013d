
/-
The contract of turn.order: the places of a string by their turns.
-/
import Derived.Test.YtgkagigagcamoaaSeg37
import Derived.Test.YtgkagigagcamoaaMathAll
import Derived.Test.YtgkagigagcamoaaSeg42
import Derived.Test.YtgkagigagcamoaaApp
import Derived.Test.YtgkagigagcamoaaShelfO
import Derived.Deep.AppendLies
namespace Go.Proofs.Ytgkagigagcamoaa
open Go.RowKit

theorem cmp_neg : ∀ a b : List UInt8, Lib.compareBytes a b < 0 ↔ a < b
  | [], [] => by simp [Lib.compareBytes]
  | [], c :: b => by simp [Lib.compareBytes]
  | c :: a, [] => by simp [Lib.compareBytes]
  | c :: a, e :: b => by
    rw [Sm.cons_lt, Lib.compareBytes]
    by_cases h1 : c < e
    · simp [h1]
    · by_cases h2 : e < c
      · have h3 : c ≠ e := by rintro rfl; exact h1 h2
        simp [h1, h2, h3]
      · obtain rfl := Sm.u8_tri h1 h2
        simp [cmp_neg a b]
/-- How the turns of s from the places x and y compare. -/
def cfT (s : ByteArray) (x y : Nat) : Int := Lib.compareBytes (Tm.cy (lst s) x s.size) (Tm.cy (lst s) y s.size)
theorem ord_cfT (s : ByteArray) : St.Ord (ltI (cfT s)) (Tm.R (lst s)) where
  tr h g := h.tr g
  yes := fun {x y} _ hl => .inl (by rw [lst_len]; exact (cmp_neg _ _).1 hl)
  no := fun {x y} hxy hl => by
    have h1 : ¬ Tm.cy (lst s) y s.size < Tm.cy (lst s) x s.size := fun h => hl ((cmp_neg _ _).2 h)
    unfold Tm.R
    rw [lst_len]
    by_cases h2 : Tm.cy (lst s) x s.size < Tm.cy (lst s) y s.size
    · exact .inl h2
    · exact .inr ⟨Sm.tri h2 h1, hxy⟩
theorem lst_app (a b : ByteArray) : lst (a ++ b) = lst a ++ lst b := by unfold lst; rw [ByteArray.data_append, Array.toList_append]
/-- n bytes of a list written twice. -/
theorem cy_twice {l : List UInt8} {x : Nat} (hx : x ≤ l.length) : ((l ++ l).drop x).take l.length = Tm.cy l x l.length := by
  refine List.ext_getElem (by rw [List.length_take, List.length_drop, List.length_append, Tm.cy_len]; omega) fun i h1 h2 => ?_
  rw [Tm.cy_len] at h2
  have e := Tm.cy_get l x h2
  rw [List.getD_eq_getElem?_getD, List.getElem?_eq_getElem (by rw [Tm.cy_len]; exact h2), Option.getD_some] at e
  rw [e, List.getElem_take, List.getElem_drop, List.getElem_append]
  unfold Tm.W
  rw [List.getD_eq_getElem?_getD]
  split
  · rename_i h
    rw [Nat.mod_eq_of_lt h, List.getElem?_eq_getElem h, Option.getD_some]
  · rename_i h
    have h3 : (x + i) % l.length = x + i - l.length := by
      rw [Nat.mod_eq_sub_mod (by omega)]
      by_cases h4 : x + i - l.length < l.length
      · exact Nat.mod_eq_of_lt h4
      · omega
    rw [h3, List.getElem?_eq_getElem (by omega), Option.getD_some]
theorem turn_ext (s : ByteArray) {x : Nat} (hx : x ≤ s.size) : lst ((s ++ s).extract x (x + s.size)) = Tm.cy (lst s) x s.size := by
  rw [lst_mid, lst_app, Nat.add_sub_cancel_left, ← lst_len s, cy_twice (by rw [lst_len]; exact hx)]
theorem order1 (s : ByteArray) (x y A B : Nat) (w : World) (hx : x ≤ s.size) (hy : y ≤ s.size) (hs : s.size ≤ 1000) (ha : w.cell? ⟨A, 0, none⟩ = some (.string (s ++ s))) (hb : w.cell? ⟨B, 0, none⟩ = some (.string s)) :
    Calls Try.prog 86 #[.int .i64 (x : Int), .int .i64 (y : Int), .pointer (some ⟨A, 0, none⟩), .pointer (some ⟨B, 0, none⟩)] w fun e w' => e = .returned (.int .i64 (cfT s x y)) ∧ Drew w w' := by
  obtain ⟨D, hD⟩ : ∃ D, D = s ++ s := ⟨_, rfl⟩
  have hDs : D.size = s.size + s.size := by rw [hD, size_app]
  obtain ⟨x1, hx1⟩ : ∃ x1, x1 = x + s.size := ⟨_, rfl⟩
  obtain ⟨y1, hy1⟩ : ∃ y1, y1 = y + s.size := ⟨_, rfl⟩
  have hC := fun W => Try.strings_Compare (D.extract x x1) (D.extract y y1) W
  have e1 : Lib.compareBytes (D.extract x x1).data.toList (D.extract y y1).data.toList = cfT s x y := by
    unfold cfT
    rw [← turn_ext s hx, ← turn_ext s hy, hx1, hy1, hD]
    rfl
  rw [e1] at hC
  rw [← hD] at ha
  generalize cfT s x y = r at hC
  have hx' : (x : Int) ≤ (x1 : Int) := by omega
  have hy' : (y : Int) ≤ (y1 : Int) := by omega
  have hx2 : (x1 : Int) ≤ (D.size : Int) := by omega
  have hy2 : (y1 : Int) ≤ (D.size : Int) := by omega
  have hx3 : x1 ≤ D.size := by omega
  have hy3 : y1 ≤ D.size := by omega
  have hx4 : x ≤ x1 := by omega
  have hy4 : y ≤ y1 := by omega
  have ex : (x : Int) + (s.size : Int) = (x1 : Int) := by omega
  have ey : (y : Int) + (s.size : Int) = (y1 : Int) := by omega
  have hwx : IntKind.i64.wrap (x1 : Int) = (x1 : Int) := IntWalk.i64_in _ (by omega)
  have hwy : IntKind.i64.wrap (y1 : Int) = (y1 : Int) := IntWalk.i64_in _ (by omega)
  have h0x : (0 : Int) ≤ (x1 : Int) := by omega
  have h0y : (0 : Int) ≤ (y1 : Int) := by omega
  clear e1 hD hDs hx1 hy1
  go_enter Try.func86, Try.ntmps86
  go_wp2
  go_region_held3 (fun W => W.cell? ⟨A, 0, none⟩ = some (.string D) ∧ W.cell? ⟨B, 0, none⟩ = some (.string s)) (first | exact ⟨ha, hb⟩) (first | (go_at_call 87; (with_reducible refine (hC _).mono ?_); rintro e w2 ⟨rfl, rfl⟩))
  go_wp2
  go_ret
  exact ⟨rfl, Drew.is_ _ _⟩
/-- The numbers that fill has come to at i. -/
theorem filled {w : World} {b n : Nat} (h : w.rowIs b 3 n (fun j => .int .i64 (fillG (fun k => (k : Int)) n j))) : w.rowIs b 3 n (fun j => .int .i64 ((id j : Nat) : Int)) :=
  h.congr fun j hj => by unfold fillG; rw [if_pos hj]; rfl
/-- What turn.order hands back: the places in the order of their turns. -/
def OrdRet (s : ByteArray) (w : World) (e : Ending) (w' : World) : Prop :=
  e = .returned (.slice (some ⟨w.heap.size + 1, 0, none⟩) s.size s.size) ∧ (∃ σ, Tm.Bw (lst s) σ ∧ w'.rowIs (w.heap.size + 1) 3 s.size (fun k => .int .i64 (σ k : Int))) ∧ Below w.heap.size w w'
theorem bw_of (s : ByteArray) {h : Nat → Nat} (hp : St.PI 0 s.size id h) (hs : St.Srt (Tm.R (lst s)) 0 s.size h) : Tm.Bw (lst s) h := by
  refine ⟨⟨fun k hk => ?_, fun i j _ _ e => hp.inj (fun x y e => e) i j e⟩, fun i j hij hj => hs i j (Nat.zero_le _) hij (by rw [← lst_len]; exact hj)⟩
  rw [lst_len] at hk ⊢
  obtain ⟨j, _, hj, e⟩ := hp.ins k (Nat.zero_le _) hk
  rw [e]
  exact hj
set_option maxHeartbeats 400000 in
theorem order_any (s : ByteArray) (w : World) (hs : s.size ≤ 200) : Calls Try.prog 78 #[.string s] w (OrdRet s w) := by
  have hmk := run_make_row' (P := Try.prog) 119 3 (.int .i64 0) 8 Try.underlying119 Try.infoInt rfl .i64 .i64 s.size (by omega) (by omega) (w.alloc (.cells #[.string s] 9))
  have hmade := World.rowIs_made (w.alloc (.cells #[.string s] 9)) (.int .i64 0) s.size 3
  have hb0 := bl_then (bl_new w (.cells #[.string s] 9)) (bl_new (w.alloc (.cells #[.string s] 9)) (.cells (madeCells #[.int .i64 0] s.size) 3))
  have hbox : ((w.alloc (.cells #[.string s] 9)).alloc (.cells (madeCells #[.int .i64 0] s.size) 3)).cell? ⟨w.heap.size, 0, none⟩ = some (.string s) := by simp
  have hsz0 : (w.alloc (.cells #[.string s] 9)).heap.size = w.heap.size + 1 := by simp
  have hsz1 : ((w.alloc (.cells #[.string s] 9)).alloc (.cells (madeCells #[.int .i64 0] s.size) 3)).heap.size = w.heap.size + 2 := by simp
  rw [hsz0] at hmade hmk
  have hbox1 : (w.alloc (.cells #[.string s] 9)).cell? ⟨w.heap.size, 0, none⟩ = some (.string s) := by simp
  generalize (w.alloc (.cells #[.string s] 9)).alloc (.cells (madeCells #[.int .i64 0] s.size) 3) = w0 at hmk hmade hb0 hbox hsz1
  have R0 : Hid (w0.rowIs (w.heap.size + 1) 3 s.size (fun j => .int .i64 (fillG (fun k => (k : Int)) 0 j))) := hmade.congr fun j _ => by
    unfold fillG
    rw [if_neg (by omega)]
  clear hmade
  have hadd := fun W : World => run_string_add_sum (P := Try.prog) W s s (by omega)
  go_enter Try.func78, Try.ntmps78
  go_wp2
  go_loopw [11] (fun x wr => ∃ i : Nat, i ≤ s.size ∧ x = .int .i64 i ∧ wr.rowIs (w.heap.size + 1) 3 s.size (fun j => .int .i64 (fillG (fun k => (k : Int)) i j)) ∧ Below w.heap.size w wr ∧ wr.cell? ⟨w.heap.size, 0, none⟩ = some (.string s) ∧ wr.heap.size = w.heap.size + 2) (fun x _ => s.size - (intOf x).toNat)
  case atStart => exact ⟨0, by omega, rfl, R0.out, hb0, hbox, hsz1⟩
  case round =>
    clear R0 hb0 hmk hbox hbox1 hsz1
    obtain ⟨i, hi, rfl, hrow, hbel, hbx, hsz⟩ := hrel
    by_cases hlt : i < s.size
    · have hlt' : (i : Int) < (s.size : Int) := by omega
      have hroom := hrow.frozen i
      have hci : wr.cell? ⟨w.heap.size + 1, i, none⟩ = some (.int .i64 (fillG (fun k => (k : Int)) i i)) := hrow.cell hlt
      have hz := hrow.lt
      have R := hid (fill_store (v := (i : Int)) hrow hbel (Nat.le_succ _) rfl 0)
      have RB : Hid ((wr.setCell ⟨w.heap.size + 1, i, none⟩ (.int .i64 (i : Int))).cell? ⟨w.heap.size, 0, none⟩ = some (.string s)) := (((Below.refl (w.heap.size + 1) wr).setCell (Nat.le_refl _) _).cell (p := ⟨w.heap.size, 0, none⟩) (Nat.lt_succ_self _)).trans hbx
      have RZ : Hid ((wr.setCell ⟨w.heap.size + 1, i, none⟩ (.int .i64 (i : Int))).heap.size = w.heap.size + 2) := by simpa [Hid] using hsz
      clear hrow hbel
      go_wp2
      go_roundw
      case rel => exact ⟨i + 1, by omega, by go_num, R.out.1, R.out.2, RB.out, RZ.out⟩
      case measure => simp [intOf]; omega
    · obtain rfl : i = s.size := by omega
      have hlt' : decide ((s.size : Int) < (s.size : Int)) = false := decide_eq_false (by omega)
      obtain ⟨D, hD⟩ : ∃ D, D = s ++ s := ⟨_, rfl⟩
      rw [← hD] at hadd
      have hN : w.heap.size < wr.heap.size := by omega
      have hnew : (wr.alloc (.cells #[.string D] 9)).cell? ⟨wr.heap.size, 0, none⟩ = some (.string D) := by simp
      have hbx2 : (wr.alloc (.cells #[.string D] 9)).cell? ⟨w.heap.size, 0, none⟩ = some (.string s) := ((bl_new wr (.cells #[.string D] 9)).cell (p := ⟨w.heap.size, 0, none⟩) hN).trans hbx
      have hrow2 : (wr.alloc (.cells #[.string D] 9)).rowIs (w.heap.size + 1) 3 s.size (fun j => .int .i64 ((id j : Nat) : Int)) := by
        obtain ⟨c, h1, h2, h3⟩ := filled hrow
        exact ⟨c, ((bl_new wr (.cells #[.string D] 9)).block _ (show w.heap.size + 1 < wr.heap.size by omega)).trans h1, h2, h3⟩
      have hbel2 := hbel.trans ((bl_new wr (.cells #[.string D] 9)).mono hbel.size)
      have hsz2 : (wr.alloc (.cells #[.string D] 9)).heap.size = wr.heap.size + 1 := by simp
      have HSI : Hid (SI (wr.alloc (.cells #[.string D] 9)) (w.heap.size + 1) s.size id (wr.alloc (.cells #[.string D] 9))) := ⟨hrow2, ⟨rfl, rfl, rfl, Nat.le_refl _, fun _ _ _ => rfl⟩, fun k hk => hk⟩
      have HCM : Hid (CmpI (wr.alloc (.cells #[.string D] 9)) (w.heap.size + 1) s.size (cfT s) (.pointer (some ⟨wr.heap.size, 0, none⟩)) (.pointer (some ⟨w.heap.size, 0, none⟩))) := by
        intro W hg x y hx hy
        refine order1 s x y _ _ W (by omega) (by omega) (by omega) ?_ ?_
        · rw [hg.cell_far ⟨wr.heap.size, 0, none⟩ (by rw [hsz2]; exact Nat.lt_succ_self _) (by simp; omega), hnew, hD]
        · rw [hg.cell_far ⟨w.heap.size, 0, none⟩ (by rw [hsz2]; show w.heap.size < wr.heap.size + 1; omega) (by simp)]
          exact hbx2
      have HB := hid hbel2
      have HZ := hid (show w.heap.size ≤ (wr.alloc (.cells #[.string D] 9)).heap.size by omega)
      clear hrow hbel hsz hD hnew hbx2 hrow2 hbel2 hsz2 hN hi
      go_wp2_with fail
      with_reducible refine (sortI_any _ _ _ _ (cfT s) _ _ (Tm.R (lst s)) _ HCM.out (ord_cfT s) HSI.out (by omega)).mono ?_
      rintro e w2 ⟨rfl, σ, h1, h2, h3⟩
      have HW := hid (bw_of s h1 h2)
      have HR := hid h3.row
      have HB2 := hid (HB.out.grown h3.gr HZ.out (fun k hk => by injection hk with hk; omega))
      clear h1 h2 h3
      go_wp2
      go_ret
      exact ⟨rfl, ⟨σ, HW.out, HR.out⟩, HB2.out⟩
end Go.Proofs.Ytgkagigagcamoaa
