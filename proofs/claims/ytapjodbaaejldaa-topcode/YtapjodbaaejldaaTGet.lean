
/-
The contracts of turn.get, turn.Get and turn.Count.
-/
import Derived.Test.YtapjodbaaejldaaTStep
import Derived.Deep.WholeRow
namespace Go.Proofs.Ytapjodbaaejldaa
open Go.RowKit

def lesL (s : ByteArray) : List Value := (List.range 256).map fun b => Value.int .i64 (lsN s b : Int)
theorem step_call (s : ByteArray) (b n : Nat) (w : World) (hs : s.size ≤ 200) (hb : b < 256) (hn : n ≤ s.size) :
    Calls Try.prog 96 #[.string s, .agg (lesL s).toArray, .int .u8 (b : Int), .int .i64 (n : Int)] w fun e w' => e = .returned (.int .i64 (Tm.sp (lst s) b n : Int)) ∧ Below w.heap.size w w' := step_any s b n w hs hb hn
theorem range_keep {w w' : World} {N M : Nat} {cs : List Value} (h : w.rangeAt N 0 cs) (hb : Below M w w') (hN : N < M) : w'.rangeAt N 0 cs :=
  fun j v hv => (hb.cell (p := ⟨N, 0 + j, none⟩) hN).trans (h j v hv)
theorem range_keep2 {w w' : World} {N M : Nat} {cs : List Value} (hb : Below M w w') (h : w.rangeAt N 0 cs) (hN : N < M) : w'.rangeAt N 0 cs := range_keep h hb hN
theorem range_set {w w' : World} {N bl i : Nat} {v : Value} {cs : List Value} (h : w.rangeAt N 0 cs) (hw : w' = w.setCell ⟨bl, i, none⟩ v) (hN : N ≠ bl) : w'.rangeAt N 0 cs := by
  subst hw
  exact fun j u hu => (World.cell?_of_block (a := ⟨N, 0 + j, none⟩) (Below.heap_setCell w ⟨bl, i, none⟩ v N hN)).trans (h j u hu)
theorem range_row {w : World} {N : Nat} {old : Array Value} (s : ByteArray) (h : w.heap[N]? = some (.cells old 121 (0, 0))) : (w.setRow N (lesA s)).rangeAt N 0 (lesL s) := by
  intro j v hv
  rw [Nat.zero_add, cell_setRow_same w N j old (lesA s) 121 (0, 0) h]
  unfold lesA
  rw [List.getElem?_toArray]
  exact hv
theorem lesL_len (s : ByteArray) : (lesL s).length = 256 := by unfold lesL; simp
/-- What is written when the bytes are stored from behind down to k. -/
def backG (g : Nat → UInt8) (k j : Nat) : Int := if k ≤ j then ((g j).toNat : Int) else 0
theorem back_store {w wr : World} {g : Nat → UInt8} {b B n k : Nat} {t : TypeId} {v : Int} (hrow : wr.rowIs b t n (fun j => .int .u8 (backG g (k + 1) j))) (hbel : Below B w wr) (hB : B ≤ b) (hv : v = ((g k).toNat : Int)) :
    (wr.setCell ⟨b, k, none⟩ (.int .u8 v)).rowIs b t n (fun j => .int .u8 (backG g k j)) ∧ Below B w (wr.setCell ⟨b, k, none⟩ (.int .u8 v)) := by
  refine ⟨(World.rowIs.set hrow k _).congr fun j _ => ?_, hbel.setCell hB _⟩
  unfold backG
  by_cases h : j = k
  · rw [if_pos h, if_pos (by omega), hv, h]
  · rw [if_neg h]
    by_cases h2 : k + 1 ≤ j
    · rw [if_pos h2, if_pos (by omega)]
    · rw [if_neg h2, if_neg (by omega)]
theorem conv_back {w : World} {b n : Nat} {g : Nat → UInt8} (h : w.rowIs b 5 n (fun j => .int .u8 (backG g 0 j))) :
    ∀ i, i < n → w.cell? ⟨b, 0 + i, none⟩ = some (.int .u8 (((List.range n).map fun k => ((g k).toNat : Int)).getD i 0)) := by
  intro i hi
  rw [Nat.zero_add, h.cell hi, List.getD_eq_getElem?_getD, List.getElem?_map, List.getElem?_range hi]
  rfl
/-- The byte that the way back tells at place k. -/
def gtB (t : ByteArray) (a k : Nat) : UInt8 := (lst t).getD (Tm.lf (lst t) a (t.size - 1 - k)) 0
theorem gtB_lst (t : ByteArray) (a : Nat) : lst (strN t.size (gtB t a)) = Tm.gt (lst t) a := by
  rw [strN_lst]
  unfold Tm.gt gtB
  rw [lst_len]
set_option maxRecDepth 100000 in
set_option maxHeartbeats 1000000 in
theorem get_any (t : ByteArray) (a : Nat) (w : World) (hs : t.size ≤ 200) (ha : a < t.size ∨ t.size = 0) : Calls Try.prog 80 #[.string t, .int .i64 (a : Int)] w fun e w' => e = .returned (.string (strN t.size (gtB t a))) ∧ Below w.heap.size w w' := by
  have HMK := hid (fun W => run_make_row' (P := Try.prog) 74 5 (.int .u8 0) 1 Try.underlying74 Try.infoU8 rfl .i64 .i64 t.size (by omega) (by omega) W)
  have hu47 := Try.underlying121
  have hi47 : (Try.prog.info? 121).map (·.size) = some (lesL t).length := by rw [lesL_len]; kernel_rfl
  have hin : (Try.prog.info? 121).map (·.size) = some (lesA t).size := by rw [lesA_size]; kernel_rfl
  go_enter Try.func80, Try.ntmps80
  go_wp2_with fail
  with_reducible refine (lesser_any t _ hs).mono ?_
  rintro e w1 ⟨rfl, hb1⟩
  have ho := heap_alloc_new w1 (.cells Try.zeroCells121 121)
  have hoz : Try.zeroCells121.size = (lesA t).size := by rw [zero47, lesA_size]; simp [madeCells]
  have hRG := range_row t ho
  have hw2 := World.setRow_alloc_new w1 Try.zeroCells121 (lesA t) 121
  rw [hw2] at hRG
  have hbel2 := bl_then hb1 (bl_new w1 (.cells (lesA t) 121))
  have hsz2 : w1.heap.size < (w1.alloc (.cells (lesA t) 121)).heap.size := by simp
  have hone := lesA_one t
  have hmk := HMK.out (w1.alloc (.cells (lesA t) 121))
  have hNw := hb1.size
  go_wp2_with (first | (with_reducible refine wpList_store_row rfl 121 _ _ rfl w1.heap.size (lesA t) rfl rfl 121 Try.zeroCells121 ho hin hoz hone ?_; rw [hw2]))
  have hmade := World.rowIs_made (w1.alloc (.cells (lesA t) 121)) (.int .u8 0) t.size 5
  have hbel3 := bl_then hbel2 (bl_new (w1.alloc (.cells (lesA t) 121)) (.cells (madeCells #[.int .u8 0] t.size) 5))
  have hRG3 := range_keep hRG (bl_new (w1.alloc (.cells (lesA t) 121)) (.cells (madeCells #[.int .u8 0] t.size) 5)) hsz2
  have hz3 : (w1.alloc (.cells (lesA t) 121)).heap.size = w1.heap.size + 1 := by simp
  rw [hz3] at hmade
  have R0 : Hid (((w1.alloc (.cells (lesA t) 121)).alloc (.cells (madeCells #[.int .u8 0] t.size) 5)).rowIs (w1.heap.size + 1) 5 t.size (fun j => .int .u8 (backG (gtB t a) t.size j))) := hmade.congr fun j hj => by
    unfold backG
    rw [if_neg (by omega)]
  generalize (w1.alloc (.cells (lesA t) 121)).alloc (.cells (madeCells #[.int .u8 0] t.size) 5) = w3 at *
  have HB3 := hid hbel3
  have HR3 := hid hRG3
  clear hmk HMK ho hoz hRG hw2 hbel2 hsz2 hone hmade hbel3 hRG3 hz3 hin hb1
  generalize hLA : lesA t = LA
  clear hLA
  generalize w1.heap.size = N at *
  go_loopw [7, 1] (fun x y wr => ∃ (k a' : Nat) (z : Int), k ≤ t.size ∧ x = .int .i64 z ∧ y = .int .i64 (a' : Int) ∧ z = (k : Int) - 1 ∧ Hid (a' = Tm.lf (lst t) a (t.size - k)) ∧ Hid (wr.rowIs (N + 1) 5 t.size (fun j => .int .u8 (backG (gtB t a) k j))) ∧ Hid (Below w.heap.size w wr) ∧ Hid (wr.rangeAt N 0 (lesL t))) (fun x _ _ => ((intOf x) + 1).toNat)
  case atStart => exact ⟨t.size, a, (t.size : Int) - 1, Nat.le_refl _, rfl, rfl, rfl, hid (by rw [Nat.sub_self]; rfl), R0, HB3, HR3⟩
  case round =>
    clear R0 HB3 HR3
    obtain ⟨k, a', z, hk, rfl, rfl, hz, HA, HR, HB, HG⟩ := hrel
    by_cases hk0 : 0 < k
    · obtain ⟨k1, hk1⟩ : ∃ k1, k = k1 + 1 := ⟨k - 1, by omega⟩
      obtain rfl : z = (k1 : Int) := by omega
      have hlt := Tm.lf_lt (lst t) (a := a) (by rw [lst_len]; omega) (t.size - k)
      rw [← HA.out, lst_len] at hlt
      have hlt' : (a' : Int) < (t.size : Int) := by omega
      have hk1t : k1 < t.size := by omega
      have hk1t' : (k1 : Int) < (t.size : Int) := by omega
      have hroom := HR.out.frozen k1
      have hcell := HR.out.cell hk1t
      have hz2 : decide ((0 : Int) ≤ (k1 : Int)) = true := decide_eq_true (by omega)
      have hbt : t[a'].toNat < 256 := t[a'].toNat_lt
      have hgb : gtB t a k1 = t[a'] := by
        unfold gtB
        rw [show t.size - 1 - k1 = t.size - k by omega, ← HA.out, lst_get, byt_eq hlt]
      have R := hid (back_store (v := (t[a'].toNat : Int)) (k := k1) (by rw [← hk1]; exact HR.out) HB.out (by omega) (by rw [hgb]))
      have hRG : (wr.setCell ⟨N + 1, k1, none⟩ (.int .u8 (t[a'].toNat : Int))).rangeAt N 0 (lesL t) := range_set HG.out rfl (by omega)
      have hNb : N < (wr.setCell ⟨N + 1, k1, none⟩ (.int .u8 (t[a'].toNat : Int))).heap.size := by have := HR.out.lt; simp; omega
      have hsp : Tm.sp (lst t) t[a'].toNat a' = Tm.lf (lst t) a (t.size - k1) := by
        rw [show t.size - k1 = t.size - k + 1 by omega]
        show _ = Tm.sp (lst t) (Lm.bn (lst t) (Tm.lf (lst t) a (t.size - k))) (Tm.lf (lst t) a (t.size - k))
        rw [← HA.out, bn_byte hlt]
      have HSP := hid hsp
      have HC := hid (fun W => step_call t t[a'].toNat a' W hs hbt (by omega))
      rw [hsp] at HC
      obtain ⟨r, hr⟩ : ∃ r, r = Tm.lf (lst t) a (t.size - k1) := ⟨_, rfl⟩
      rw [← hr] at HC
      have HRR := hid hr
      have hrow2 := HR.out.lt
      have HKB := hid (bl_drewN R.out.2)
      have HKL := hid (show ∀ d, N + 1 + 1 ≤ ((wr.setCell ⟨N + 1, k1, none⟩ (.int .u8 (t[a'].toNat : Int))).drewN d).heap.size from fun d => by have := HR.out.lt; simp; omega)
      have HKK := hid hk1
      clear HA HR HB HG hgb hsp hr hk1 hz
      go_wp2
      generalize wr.setCell ⟨N + 1, k1, none⟩ (.int .u8 (t[a'].toNat : Int)) = wq at *
      go_region_held3 (fun W => W.rangeAt N 0 (lesL t)) (first | exact hRG | assumption) (first | (go_at_call 96; (with_reducible refine (HC.out _).mono ?_); rintro e w8 ⟨rfl, hb8⟩; have hS8 : w8.rangeAt N 0 (lesL t) := range_keep2 hb8 hRG hNb; have HB8 := hid hb8; clear hb8))
      go_wp2
      go_roundw
      case measure => simp [intOf]
      case rel =>
        have hk := HKK.out
        have hb9 := HB8.out
        refine ⟨k1, r, (k1 : Int) - 1, by omega, rfl, rfl, rfl, HRR, hid (rowIs_same R.out.1 (hb9.block _ ?_)), hid (bl_then R.out.2.drew hb9), hid ‹_›⟩
        have := HKL.out 0
        exact this
    · obtain rfl : k = 0 := by omega
      have hzd : decide ((0 : Int) ≤ z) = false := decide_eq_false (by omega)
      clear hz
      have hcv := run_convert_bytes_arg (P := Try.prog) wr 74 5 Try.underlying74 Try.underlying5 (N + 1) 0 t.size t.size _ (by simp) (conv_back HR.out) 9 Try.underlying9
      rw [show strOfNums ((List.range t.size).map fun k => ((gtB t a k).toNat : Int)) = strN t.size (gtB t a) from rfl] at hcv
      obtain ⟨S, hS⟩ : ∃ S, S = strN t.size (gtB t a) := ⟨_, rfl⟩
      rw [← hS] at hcv
      have HS := hid hS
      clear HA HR HG hS
      go_wp2
      go_ret
      exact ⟨congrArg (fun q => Ending.returned (.string q)) HS.out, HB.out⟩
theorem lst_inj {a b : ByteArray} (h : lst a = lst b) : a = b := by
  cases a; cases b
  unfold lst at h
  simp at h
  rw [h]
theorem Get_large (t : ByteArray) (at_ : Int) (w : World) (hs : 200 < t.size) : Calls Try.prog 41 #[.string t, .int .i64 at_] w fun e w' => e = .returned (.tuple #[.string ByteArray.empty, .int .i64 2]) ∧ w = w' := by
  go_enter Try.func41, Try.ntmps41
  go_wp2_with fail
  with_reducible refine (check_large t _ hs).mono ?_
  rintro e w1 ⟨rfl, rfl⟩
  go_wp2
  go_ret2
  exact ⟨rfl, rfl⟩
theorem Get_arg (t : ByteArray) (at_ : Int) (w : World) (hs : t.size ≤ 200) (ha : at_ < 0 ∨ ((max t.size 1 : Nat) : Int) ≤ at_) : Calls Try.prog 41 #[.string t, .int .i64 at_] w fun e w' => e = .returned (.tuple #[.string ByteArray.empty, .int .i64 1]) ∧ w = w' := by
  obtain ⟨m, hm⟩ : ∃ m, m = max t.size 1 := ⟨_, rfl⟩
  rw [← hm] at ha
  have em : max (t.size : Int) 1 = (m : Int) := by omega
  have em2 : (if (t.size : Int) < 1 then (1 : Int) else (t.size : Int)) = (m : Int) := by split <;> omega
  clear hm
  by_cases h0 : at_ < 0
  · have hd : decide (at_ < 0) = true := decide_eq_true h0
    go_enter Try.func41, Try.ntmps41
    go_wp2_with fail
    with_reducible refine (check_ok t _ hs).mono ?_
    rintro e w1 ⟨rfl, rfl⟩
    go_wp2
    go_ret2
    exact ⟨rfl, rfl⟩
  · have hd : decide (at_ < 0) = false := decide_eq_false h0
    have h1 : (m : Int) ≤ at_ := by omega
    have hd1 : decide ((m : Int) ≤ at_) = true := decide_eq_true h1
    go_enter Try.func41, Try.ntmps41
    go_wp2_with fail
    with_reducible refine (check_ok t _ hs).mono ?_
    rintro e w1 ⟨rfl, rfl⟩
    go_wp2
    go_ret2
    exact ⟨rfl, rfl⟩
/-- The word that turn.get tells. -/
def gtS (t : ByteArray) (a : Nat) : ByteArray := strN t.size (gtB t a)
theorem gtS_lst (t : ByteArray) (a : Nat) : lst (gtS t a) = Tm.gt (lst t) a := gtB_lst t a
theorem gtS_size (t : ByteArray) (a : Nat) : (gtS t a).size = t.size := strN_size _ _
theorem Get_fit (t : ByteArray) (a : Nat) (w : World) (hs : t.size ≤ 200) (ha : a < max t.size 1) :
    Calls Try.prog 41 #[.string t, .int .i64 (a : Int)] w fun e w' =>
      ((Tm.IsPut (Tm.gt (lst t) a) (lst t) a ∧ e = .returned (.tuple #[.string (gtS t a), .int .i64 0])) ∨ (¬ Tm.IsPut (Tm.gt (lst t) a) (lst t) a ∧ e = .returned (.tuple #[.string ByteArray.empty, .int .i64 3]))) ∧ Below w.heap.size w w' := by
  obtain ⟨m, hm⟩ : ∃ m, m = max t.size 1 := ⟨_, rfl⟩
  have em : max (t.size : Int) 1 = (m : Int) := by omega
  have em2 : (if (t.size : Int) < 1 then (1 : Int) else (t.size : Int)) = (m : Int) := by split <;> omega
  have hd0 : decide ((a : Int) < 0) = false := decide_eq_false (by omega)
  have hd1 : decide ((m : Int) ≤ (a : Int)) = false := decide_eq_false (by omega)
  have ha2 : a < t.size ∨ t.size = 0 := by omega
  clear hm
  have hgs := gtS_size t a
  go_enter Try.func41, Try.ntmps41
  go_wp2_with fail
  with_reducible refine (check_ok t _ hs).mono ?_
  rintro e w1 ⟨rfl, rfl⟩
  go_wp2_with fail
  with_reducible refine (get_any t a _ hs ha2).mono ?_
  rintro e w1 ⟨rfl, hb1⟩
  rw [show strN t.size (gtB t a) = gtS t a from rfl]
  go_wp2_with fail
  with_reducible refine (put_any (gtS t a) _ (by omega)).mono ?_
  rintro e w2 ⟨u, k, rfl, hp, hb2⟩
  have hb3 := bl_then hb1 hb2
  rw [gtS_lst] at hp
  have HP := hid hp
  clear hp hb1 hb2 hgs
  obtain ⟨S, hS⟩ : ∃ S, S = gtS t a := ⟨_, rfl⟩
  rw [← hS]
  have HS := hid hS
  clear hS
  by_cases hut : u = t
  · subst hut
    have hd2 : (u.toList == u.toList) = true := by simp
    by_cases hka : k = a
    · subst hka
      have hd3 : ((k : Int) != (k : Int)) = false := by simp
      go_wp2
      go_ret2
      exact ⟨.inl ⟨HP.out, by rw [HS.out]; rfl⟩, hb3⟩
    · have hd3 : ((k : Int) != (a : Int)) = true := bne_iff_ne.2 (by omega)
      have HK := hid hka
      clear hka
      go_wp2
      go_ret2
      exact ⟨.inr ⟨fun h => HK.out (HP.out.unique h).2, rfl⟩, hb3⟩
  · have hd2 : (u.toList == t.toList) = false := beq_eq_false_iff_ne.2 fun e => hut (list_eq.1 e)
    have HU := hid hut
    clear hut
    go_wp2
    go_ret2
    exact ⟨.inr ⟨fun h => HU.out (lst_inj (HP.out.unique h).1), rfl⟩, hb3⟩
end Go.Proofs.Ytapjodbaaejldaa
