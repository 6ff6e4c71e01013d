/-
Several texts of this proof, one behind the other.
-/
import Derived.Test.YtgkagigagcamoaaTOrder
import Derived.Test.YtgkagigagcamoaaSeg42
import Derived.Test.YtgkagigagcamoaaBack
import Derived.Deep.WholeRow

/-
The contracts of turn.put and turn.Put.
-/
namespace Go.Proofs.Ytgkagigagcamoaa
open Go.RowKit

/-- The string of the bytes g 0, .., g (n - 1). -/
def strN (n : Nat) (g : Nat → UInt8) : ByteArray := strOfNums ((List.range n).map fun k => ((g k).toNat : Int))
theorem strN_size (n : Nat) (g : Nat → UInt8) : (strN n g).size = n := by unfold strN; rw [strOfNums_size]; simp
theorem strN_lst (n : Nat) (g : Nat → UInt8) : lst (strN n g) = (List.range n).map g := by
  unfold strN lst
  rw [strOfNums_data, List.map_map]
  refine List.map_congr_left fun k _ => ?_
  simp
theorem fill_storeB {w wr : World} {g : Nat → Int} {b B n i : Nat} {t : TypeId} {v : Int} (hrow : wr.rowIs b t n (fun j => .int .u8 (fillG g i j))) (hbel : Below B w wr) (hB : B ≤ b) (hv : v = g i) :
    ∀ d, ((wr.drewN d).setCell ⟨b, i, none⟩ (.int .u8 v)).rowIs b t n (fun j => .int .u8 (fillG g (i + 1) j)) ∧ Below B w ((wr.drewN d).setCell ⟨b, i, none⟩ (.int .u8 v)) := by
  intro d
  refine ⟨(World.rowIs.set (w := wr.drewN d) hrow i _).congr fun j _ => ?_, (bl_drewN hbel d).setCell hB _⟩
  rw [fillG_succ]
  by_cases h : j = i
  · rw [if_pos h, if_pos h, hv]
  · rw [if_neg h, if_neg h]
theorem Try.infoU8 : (Try.prog.info? 5).map (fun i => (i.zero, i.size, i.bytes)) = some (some (.int .u8 0), 1, 1) := by kernel_rfl
theorem conv_row {w : World} {b n : Nat} {g : Nat → UInt8} (h : w.rowIs b 5 n (fun j => .int .u8 (fillG (fun k => ((g k).toNat : Int)) n j))) :
    ∀ i, i < n → w.cell? ⟨b, 0 + i, none⟩ = some (.int .u8 (((List.range n).map fun k => ((g k).toNat : Int)).getD i 0)) := by
  intro i hi
  rw [Nat.zero_add, h.cell hi, fillG_lt hi, List.getD_eq_getElem?_getD, List.getElem?_map, List.getElem?_range hi]
  rfl
/-- What turn.put hands back. -/
def PutRet (s : ByteArray) (w : World) (e : Ending) (w' : World) : Prop :=
  ∃ (t : ByteArray) (a : Nat), e = .returned (.tuple #[.string t, .int .i64 (a : Int)]) ∧ Tm.IsPut (lst s) (lst t) a ∧ Below w.heap.size w w'
theorem rowIs_same {w w' : World} {b n : Nat} {t : TypeId} {f : Nat → Value} (h : w.rowIs b t n f) (hb : w'.heap[b]? = w.heap[b]?) : w'.rowIs b t n f := by
  obtain ⟨c, h1, h2, h3⟩ := h
  exact ⟨c, hb.trans h1, h2, h3⟩
/-- The last byte of the turn from place i. -/
theorem last_byte (s : ByteArray) {i : Nat} (hi : i < s.size) : Tm.W (lst s) i (s.size - 1) = byt s (if i = 0 then s.size - 1 else i - 1) := by
  unfold Tm.W
  rw [lst_len, lst_get]
  by_cases h : i = 0
  · rw [if_pos h, h, Nat.zero_add, Nat.mod_eq_of_lt (by omega)]
  · rw [if_neg h, show i + (s.size - 1) = i - 1 + s.size by omega, Nat.add_mod_right, Nat.mod_eq_of_lt (by omega)]
theorem isput_of (s : ByteArray) {σ : Nat → Nat} {a : Nat} (h : Tm.Bw (lst s) σ) (h1 : ∀ j, j < s.size → σ j = 0 → a = j) (h2 : a = 0 ∨ (a < s.size ∧ σ a = 0)) :
    Tm.IsPut (lst s) (lst (strN s.size fun k => Tm.W (lst s) (σ k) (s.size - 1))) a := by
  rw [strN_lst]
  refine ⟨by rw [lst_len]; simp, ⟨σ, h, fun k hk => ?_, fun hp => ?_⟩, fun hz => ?_⟩
  · rw [lst_len] at hk ⊢
    rw [List.getD_eq_getElem?_getD, List.getElem?_map, List.getElem?_range hk]
    rfl
  · obtain ⟨k, hk, e⟩ := h.bij.onto hp
    rw [lst_len] at hk ⊢
    obtain rfl := h1 k hk e
    exact ⟨hk, e⟩
  · rw [lst_len] at hz
    omega
set_option maxHeartbeats 1000000 in
theorem put_any (s : ByteArray) (w : World) (hs : s.size ≤ 200) : Calls Try.prog 66 #[.string s] w (PutRet s w) := by
  have HMK := hid (fun W => run_make_row' (P := Try.prog) 30 5 (.int .u8 0) 1 Try.underlying30 Try.infoU8 rfl .i64 .i64 s.size (by omega) (by omega) W)
  go_enter Try.func66, Try.ntmps66
  go_wp2_with fail
  with_reducible refine (order_any s _ hs).mono ?_
  rintro e w1 ⟨rfl, ⟨σ, hσ, hrow⟩, hb1⟩
  have hmk := HMK.out w1
  have hmade := World.rowIs_made w1 (.int .u8 0) s.size 5
  have hb0 := bl_then hb1 (bl_new w1 (.cells (madeCells #[.int .u8 0] s.size) 5))
  have hpl := rowIs_same hrow ((bl_new w1 (.cells (madeCells #[.int .u8 0] s.size) 5)).block _ hrow.lt)
  have hlt0 : w.heap.size + 1 < w1.heap.size := hrow.lt
  obtain ⟨bp, hbp⟩ : ∃ bp, bp = w.heap.size + 1 := ⟨_, rfl⟩
  obtain ⟨bl, hbl⟩ : ∃ bl, bl = w1.heap.size := ⟨_, rfl⟩
  rw [← hbp] at hpl hlt0 ⊢
  rw [← hbl] at hmade hmk hlt0
  generalize w1.alloc (.cells (madeCells #[.int .u8 0] s.size) 5) = w2 at hmk hmade hb0 hpl
  have R0 : Hid (w2.rowIs bl 5 s.size (fun j => .int .u8 (fillG (fun k => ((Tm.W (lst s) (σ k) (s.size - 1)).toNat : Int)) 0 j))) := hmade.congr fun j _ => by
    unfold fillG
    rw [if_neg (by omega)]
  have HP := hid hpl
  have HB0 := hid hb0
  have HW := hid hσ
  have hbw : w.heap.size ≤ bl := by omega
  clear hσ hrow HMK hb1 hmade hb0 hpl hbp hbl
  go_wp2
  go_loopw [16, 6] (fun x y wr => ∃ i a : Nat, i ≤ s.size ∧ x = .int .i64 i ∧ y = .int .i64 a ∧ Hid (wr.rowIs bl 5 s.size (fun j => .int .u8 (fillG (fun k => ((Tm.W (lst s) (σ k) (s.size - 1)).toNat : Int)) i j))) ∧ Hid (wr.rowIs bp 3 s.size (fun k => .int .i64 (σ k : Int))) ∧ Hid (Below w.heap.size w wr) ∧ Hid (∀ j, j < i → σ j = 0 → a = j) ∧ Hid (a = 0 ∨ (a < s.size ∧ σ a = 0))) (fun x _ _ => s.size - (intOf x).toNat)
  case atStart => exact ⟨0, 0, by omega, rfl, rfl, R0, HP, HB0, hid (fun j hj => by omega), hid (.inl rfl)⟩
  case round =>
    clear R0 HP HB0 hmk
    obtain ⟨i, a, hi, rfl, rfl, HF, HP, HB, HA1, HA2⟩ := hrel
    by_cases hlt : i < s.size
    · have hlt' : (i : Int) < (s.size : Int) := by omega
      have hroom := HF.out.frozen i
      have hci := HF.out.cell hlt
      have hcp := HP.out.cell hlt
      have hσi : σ i < s.size := by have := HW.out.bij.lt i (by rw [lst_len]; exact hlt); rw [lst_len] at this; exact this
      have hlb := last_byte s hσi
      have HP2 : Hid (∀ v : Value, (wr.setCell ⟨bl, i, none⟩ v).rowIs bp 3 s.size (fun k => .int .i64 (σ k : Int))) := fun v => rowIs_same HP.out (Below.heap_setCell wr ⟨bl, i, none⟩ v bp (by show bp ≠ bl; omega))
      have HFS := hid (fun v hv => fill_storeB (v := v) HF.out HB.out hbw hv 0)
      have hs1 : (s.size : Int) - 1 = ((s.size - 1 : Nat) : Int) := by omega
      obtain ⟨n1, hn1⟩ : ∃ n1, n1 = s.size - 1 := ⟨_, rfl⟩
      rw [← hn1] at hs1 hlb
      have hn1s : (n1 : Int) < (s.size : Int) := by omega
      have hn1t : n1 < s.size := by omega
      by_cases h0 : σ i = 0
      · rw [h0, if_pos rfl, ← h0] at hlb
        have HV := (HFS.out (s[n1].toNat : Int) (by show _ = ((Tm.W (lst s) (σ i) (s.size - 1)).toNat : Int); rw [← hn1, hlb, byt_eq hn1t]))
        rw [h0] at hcp
        have HV2 := hid HV
        have H0 := hid h0
        clear HF HP HB HFS HV hlb hn1 h0
        go_wp2
        go_roundw
        case measure => simp [intOf]; omega
        case rel =>
          refine ⟨i + 1, i, by omega, by go_num, rfl, hid HV2.out.1, hid (HP2.out _), hid HV2.out.2, hid (fun j hj h => ?_), hid (.inr ⟨hlt, H0.out⟩)⟩
          refine HW.out.bij.inj i j (by rw [lst_len]; exact hlt) (by rw [lst_len]; omega) (by rw [h, H0.out])
      · rw [if_neg h0] at hlb
        obtain ⟨f, hf⟩ : ∃ f, σ i = f + 1 := ⟨σ i - 1, by omega⟩
        have hfs : f < s.size := by omega
        have hfs' : (f : Int) < (s.size : Int) := by omega
        rw [hf, Nat.add_sub_cancel, ← hf] at hlb
        have HV := (HFS.out (s[f].toNat : Int) (by show _ = ((Tm.W (lst s) (σ i) (s.size - 1)).toNat : Int); rw [← hn1, hlb, byt_eq hfs]))
        obtain ⟨q, hq⟩ : ∃ q, q = σ i := ⟨_, rfl⟩
        rw [← hq] at hcp
        have hq0 : ((q : Int) == 0) = false := beq_eq_false_iff_ne.2 (by omega)
        have eq1 : (q : Int) - 1 = (f : Int) := by omega
        have hwf : IntKind.i64.wrap (f : Int) = (f : Int) := IntWalk.i64_in _ (by omega)
        have HV2 := hid HV
        have H0 := hid h0
        have hqb : q ≤ 200 := by omega
        clear HF HP HB HFS HV hlb hn1 h0 hf hq
        go_wp2
        go_roundw
        case measure => simp [intOf]; omega
        case rel =>
          refine ⟨i + 1, a, by omega, by go_num, rfl, hid HV2.out.1, hid (HP2.out _), hid HV2.out.2, hid (fun j hj h => ?_), HA2⟩
          by_cases hji : j = i
          · rw [hji] at h; exact absurd h H0.out
          · exact HA1.out j (by omega) h
    · obtain rfl : i = s.size := by omega
      have hlt' : decide ((s.size : Int) < (s.size : Int)) = false := decide_eq_false (by omega)
      have hcv := run_convert_bytes_arg (P := Try.prog) wr 30 5 Try.underlying30 Try.underlying5 bl 0 s.size s.size _ (by simp) (conv_row HF.out) 9 Try.underlying9
      have HI := hid (isput_of s HW.out HA1.out HA2.out)
      rw [show strOfNums ((List.range s.size).map fun k => ((Tm.W (lst s) (σ k) (s.size - 1)).toNat : Int)) = strN s.size (fun k => Tm.W (lst s) (σ k) (s.size - 1)) from rfl] at hcv
      generalize strN s.size (fun k => Tm.W (lst s) (σ k) (s.size - 1)) = t at hcv HI
      clear HF HP HA1 HA2
      go_wp2
      go_ret2
      exact ⟨t, a, rfl, HI.out, HB.out⟩
/-- What turn.Put hands back where there is no error. -/
def PutOk (s : ByteArray) (w : World) (e : Ending) (w' : World) : Prop :=
  ∃ (t : ByteArray) (a : Nat), e = .returned (.tuple #[.string t, .int .i64 (a : Int), .int .i64 0]) ∧ Tm.IsPut (lst s) (lst t) a ∧ Below w.heap.size w w'
theorem Put_ok (s : ByteArray) (w : World) (hs : s.size ≤ 200) : Calls Try.prog 53 #[.string s] w (PutOk s w) := by
  go_enter Try.func53, Try.ntmps53
  go_wp2_with fail
  with_reducible refine (check_ok s _ hs).mono ?_
  rintro e w1 ⟨rfl, rfl⟩
  go_wp2_with fail
  with_reducible refine (put_any s _ hs).mono ?_
  rintro e w1 ⟨t, a, rfl, hp, hb⟩
  have HP := hid hp
  clear hp
  go_wp2
  go_ret3
  exact ⟨t, a, rfl, HP.out, hb⟩
theorem Put_large (s : ByteArray) (w : World) (hs : 200 < s.size) :
    Calls Try.prog 53 #[.string s] w fun e w' => e = .returned (.tuple #[.string ByteArray.empty, .int .i64 0, .int .i64 2]) ∧ w = w' := by
  go_enter Try.func53, Try.ntmps53
  go_wp2_with fail
  with_reducible refine (check_large s _ hs).mono ?_
  rintro e w1 ⟨rfl, rfl⟩
  go_wp2
  go_ret3
  exact ⟨rfl, rfl⟩
end Go.Proofs.Ytgkagigagcamoaa


/-
The contracts of turn.lesser and turn.step: how many bytes are less, and a step of the way back.
-/
namespace Go.Proofs.Ytgkagigagcamoaa
open Go.RowKit

/-- How many of the first m bytes of s are b. -/
def eqN (s : ByteArray) (b m : Nat) : Nat := Tm.cnt (fun i => decide (Lm.bn (lst s) i = b)) m
/-- How many bytes of s are less than b. -/
def lsN (s : ByteArray) (b : Nat) : Nat := Tm.cnt (fun i => decide (Lm.bn (lst s) i < b)) s.size
theorem bn_byte {s : ByteArray} {i : Nat} (h : i < s.size) : Lm.bn (lst s) i = s[i].toNat := by unfold Lm.bn; rw [lst_get, byt_eq h]
theorem sp_is (s : ByteArray) (b m : Nat) : Tm.sp (lst s) b m = lsN s b + eqN s b m := by unfold Tm.sp lsN eqN; rw [lst_len]
theorem eqN_succ {s : ByteArray} {i : Nat} (h : i < s.size) (b : Nat) : eqN s b (i + 1) = if b = s[i].toNat then eqN s b i + 1 else eqN s b i := by
  unfold eqN
  rw [show Tm.cnt (fun i => decide (Lm.bn (lst s) i = b)) (i + 1) = Tm.cnt (fun i => decide (Lm.bn (lst s) i = b)) i + (decide (Lm.bn (lst s) i = b)).toNat from rfl, bn_byte h]
  by_cases e : b = s[i].toNat
  · rw [if_pos e, decide_eq_true e.symm]; rfl
  · rw [if_neg e, decide_eq_false (fun h => e h.symm)]; rfl
theorem eqN_le (s : ByteArray) (b m : Nat) : eqN s b m ≤ m := Tm.cnt_le _ _
theorem lsN_le (s : ByteArray) (b : Nat) : lsN s b ≤ s.size := Tm.cnt_le _ _
theorem lsN_zero (s : ByteArray) : lsN s 0 = 0 := by
  have := Tm.cnt_mono (n := s.size) (P := fun i => decide (Lm.bn (lst s) i < 0)) (Q := fun i => decide (i < 0)) fun j _ h => by simp at h
  rw [Tm.cnt_below] at this
  unfold lsN
  omega
theorem lsN_succ (s : ByteArray) (b : Nat) : lsN s (b + 1) = lsN s b + eqN s b s.size := by
  unfold lsN eqN
  refine Tm.cnt_or (fun j _ h => ?_) (fun j _ => ?_)
  · simp at h; omega
  · rw [← Bool.decide_or]
    exact decide_eq_decide.2 (by omega)
/-- The array that turn.lesser hands back. -/
def lesA (s : ByteArray) : Array Value := ((List.range 256).map fun b => Value.int .i64 (lsN s b : Int)).toArray
theorem below_setRow {w wr : World} {N : Nat} (h : Below N w wr) (cs : Array Value) : Below N w (wr.setRow N cs) :=
  ⟨h.os, h.tape, h.output, by have := h.size; simpa [World.setRow] using this, fun k hk => (setRow_other wr N k cs (by omega)).trans (h.block k hk)⟩
theorem lesA_size (s : ByteArray) : (lesA s).size = 256 := by unfold lesA; simp
theorem lesA_one (s : ByteArray) : (lesA s).all (·.oneCell') = true := by
  unfold lesA
  rw [Array.all_eq_true_iff_forall_mem]
  intro v hv
  simp at hv
  obtain ⟨_, _, rfl⟩ := hv
  rfl
end Go.Proofs.Ytgkagigagcamoaa


/-
The contracts of turn.get, turn.Get and turn.Count.
-/
namespace Go.Proofs.Ytgkagigagcamoaa
open Go.RowKit

def lesL (s : ByteArray) : List Value := (List.range 256).map fun b => Value.int .i64 (lsN s b : Int)
theorem range_keep {w w' : World} {N M : Nat} {cs : List Value} (h : w.rangeAt N 0 cs) (hb : Below M w w') (hN : N < M) : w'.rangeAt N 0 cs :=
  fun j v hv => (hb.cell (p := ⟨N, 0 + j, none⟩) hN).trans (h j v hv)
theorem range_keep2 {w w' : World} {N M : Nat} {cs : List Value} (hb : Below M w w') (h : w.rangeAt N 0 cs) (hN : N < M) : w'.rangeAt N 0 cs := range_keep h hb hN
theorem range_set {w w' : World} {N bl i : Nat} {v : Value} {cs : List Value} (h : w.rangeAt N 0 cs) (hw : w' = w.setCell ⟨bl, i, none⟩ v) (hN : N ≠ bl) : w'.rangeAt N 0 cs := by
  subst hw
  exact fun j u hu => (World.cell?_of_block (a := ⟨N, 0 + j, none⟩) (Below.heap_setCell w ⟨bl, i, none⟩ v N hN)).trans (h j u hu)
theorem lesL_len (s : ByteArray) : (lesL s).length = 256 := by unfold lesL; simp
/-- What is written when the bytes are stored from behind down to k. -/
def backG (g : Nat → UInt8) (k j : Nat) : Int := if k ≤ j then ((g j).toNat : Int) else 0
theorem back_store {w wr : World} {g : Nat → UInt8} {b B n k : Nat} {t : TypeId} {v : Int} (hrow : wr.rowIs b t n (fun j => .int .u8 (backG g (k + 1) j))) (hbel : Below B w wr) (hB : B ≤ b) (hv : v = ((g k).toNat : Int)) :
    (wr.setCell ⟨b, k, none⟩ (.int .u8 v)).rowIs b t n (fun j => .int .u8 (backG g k j)) ∧ Below B w (wr.setCell ⟨b, k, none⟩ (.int .u8 v)) := by
  refine ⟨(World.rowIs.set hrow k _).congr fun j _ => ?_, hbel.setCell hB _⟩
  unfold backG
  by_cases h : j = k
  · rw [if_pos h, if_pos (by omega), hv, h]
  · rw [if_neg h]
    by_cases h2 : k + 1 ≤ j
    · rw [if_pos h2, if_pos (by omega)]
    · rw [if_neg h2, if_neg (by omega)]
theorem conv_back {w : World} {b n : Nat} {g : Nat → UInt8} (h : w.rowIs b 5 n (fun j => .int .u8 (backG g 0 j))) :
    ∀ i, i < n → w.cell? ⟨b, 0 + i, none⟩ = some (.int .u8 (((List.range n).map fun k => ((g k).toNat : Int)).getD i 0)) := by
  intro i hi
  rw [Nat.zero_add, h.cell hi, List.getD_eq_getElem?_getD, List.getElem?_map, List.getElem?_range hi]
  rfl
/-- The byte that the way back tells at place k. -/
def gtB (t : ByteArray) (a k : Nat) : UInt8 := (lst t).getD (Tm.lf (lst t) a (t.size - 1 - k)) 0
theorem gtB_lst (t : ByteArray) (a : Nat) : lst (strN t.size (gtB t a)) = Tm.gt (lst t) a := by
  rw [strN_lst]
  unfold Tm.gt gtB
  rw [lst_len]
theorem lst_inj {a b : ByteArray} (h : lst a = lst b) : a = b := by
  cases a; cases b
  unfold lst at h
  simp at h
  rw [h]
/-- The word that turn.get tells. -/
def gtS (t : ByteArray) (a : Nat) : ByteArray := strN t.size (gtB t a)
theorem gtS_lst (t : ByteArray) (a : Nat) : lst (gtS t a) = Tm.gt (lst t) a := gtB_lst t a
theorem gtS_size (t : ByteArray) (a : Nat) : (gtS t a).size = t.size := strN_size _ _
end Go.Proofs.Ytgkagigagcamoaa


/-
The contract of turn.Count.
-/
namespace Go.Proofs.Ytgkagigagcamoaa
open Go.RowKit

namespace Tm
/-- LOW and HIGH behind d bytes of the search. -/
def cs (t p : List UInt8) : Nat → Nat × Nat
  | 0 => (0, t.length)
  | d + 1 => if (cs t p d).1 < (cs t p d).2 then (sp t (Lm.bn p (p.length - 1 - d)) (cs t p d).1, sp t (Lm.bn p (p.length - 1 - d)) (cs t p d).2) else cs t p d
theorem cs_le (t p : List UInt8) : ∀ d, (cs t p d).1 ≤ (cs t p d).2 ∧ (cs t p d).2 ≤ t.length
  | 0 => ⟨Nat.zero_le _, Nat.le_refl _⟩
  | d + 1 => by
    have ih := cs_le t p d
    unfold cs
    split
    · exact ⟨sp_mono t _ ih.1 ih.2, sp_le t _ _ ih.2⟩
    · exact ih
theorem cs_stop (t p : List UInt8) {d : Nat} (h : ¬ (cs t p d).1 < (cs t p d).2) : ∀ e, cs t p (d + e) = cs t p d
  | 0 => rfl
  | e + 1 => by
    have ih := cs_stop t p h e
    show (if (cs t p (d + e)).1 < (cs t p (d + e)).2 then _ else cs t p (d + e)) = _
    rw [ih, if_neg h]
def csn (t p : List UInt8) : Nat := (cs t p p.length).2 - (cs t p p.length).1
end Tm
end Go.Proofs.Ytgkagigagcamoaa


/-
Plain mathematics of the Burrows-Wheeler transform, more of it: all turns of a word have the same transform; searching from behind counts the places. No program is named here.
-/
namespace Go.Proofs.Ytgkagigagcamoaa
namespace Tm
open Lm Sm

/-- A turn of x, as a list. -/
def rt (x : List UInt8) (k : Nat) : List UInt8 := x.drop k ++ x.take k
theorem rt_len {x : List UInt8} {k : Nat} (h : k ≤ x.length) : (rt x k).length = x.length := by unfold rt; rw [List.length_append, List.length_drop, List.length_take]; omega
theorem rt_get {x : List UInt8} {k i : Nat} (hk : k ≤ x.length) (hi : i < x.length) : (rt x k).getD i 0 = x.getD ((k + i) % x.length) 0 := by
  unfold rt
  rw [List.getD_eq_getElem?_getD, List.getD_eq_getElem?_getD, List.getElem?_append]
  by_cases h : i < (x.drop k).length
  · rw [if_pos h, List.getElem?_drop]
    rw [List.length_drop] at h
    rw [Nat.mod_eq_of_lt (by omega)]
  · rw [if_neg h, List.getElem?_take]
    rw [List.length_drop] at *
    rw [if_pos (by omega)]
    have e : (k + i) % x.length = i - (x.length - k) := by
      rw [Nat.mod_eq_sub_mod (by omega), Nat.mod_eq_of_lt (by omega)]
      omega
    rw [e]
theorem rt_W {x : List UInt8} {k : Nat} (hk : k ≤ x.length) (hx : 0 < x.length) (i d : Nat) : W (rt x k) i d = W x (k + i) d := by
  unfold W
  rw [rt_len hk, rt_get hk (Nat.mod_lt _ hx), Nat.add_mod_mod, Nat.add_assoc]
theorem rt_cy {x : List UInt8} {k : Nat} (hk : k ≤ x.length) (hx : 0 < x.length) (i m : Nat) : cy (rt x k) i m = cy x ((k + i) % x.length) m := by
  unfold cy
  exact List.map_congr_left fun d _ => by rw [rt_W hk hx, W_mod]
theorem turn_bij (n k : Nat) : Bij n (fun i => (k + i) % n) := by
  refine ⟨fun i hi => Nat.mod_lt _ (by omega), fun i j hi hj h => ?_⟩
  have h : (k + i) % n = (k + j) % n := h
  have h1 : (k % n + i) % n = (k % n + j) % n := by rw [Nat.mod_add_mod, Nat.mod_add_mod]; exact h
  have h2 := Nat.mod_lt k (show 0 < n by omega)
  generalize k % n = r at h1 h2
  have e : ∀ i, i < n → (r + i) % n = if r + i < n then r + i else r + i - n := fun i hi => by
    by_cases h : r + i < n
    · rw [if_pos h, Nat.mod_eq_of_lt h]
    · rw [if_neg h, Nat.mod_eq_sub_mod (by omega), Nat.mod_eq_of_lt (by omega)]
  rw [e i hi, e j hj] at h1
  split at h1 <;> split at h1 <;> omega
/-- All turns of a word have the same last bytes. -/
theorem IsPut.turned {x t u : List UInt8} {a b k : Nat} (hk : k ≤ x.length) (h : IsPut x t a) (g : IsPut (rt x k) u b) : t = u := by
  have hl := rt_len hk
  obtain ⟨σ, h1, h2, _⟩ := h.all
  obtain ⟨τ, g1, g2, _⟩ := g.all
  refine List.ext_getElem (by rw [h.len, g.len, hl]) fun i i1 i2 => ?_
  have hi : i < x.length := by rw [← h.len]; exact i1
  have hx : 0 < x.length := by omega
  have e1 := h2 i hi
  have e2 := g2 i (by rw [hl]; exact hi)
  rw [List.getD_eq_getElem?_getD, List.getElem?_eq_getElem i1, Option.getD_some] at e1
  rw [List.getD_eq_getElem?_getD, List.getElem?_eq_getElem i2, Option.getD_some] at e2
  rw [e1, e2]
  have hb2 := g1.bij
  rw [hl] at hb2
  have hsame := same_rows (n := x.length) (T := fun j => cy x (σ j) x.length) (U := fun j => cy (rt x k) (τ j) x.length) (h1.rise x.length) (fun i j hij hj => g1.rise x.length i j hij (by rw [hl]; exact hj)) (fun P => by
    show cnt (fun j => P (cy x (σ j) x.length)) x.length = cnt (fun j => P (cy (rt x k) (τ j) x.length)) x.length
    rw [h1.bij.cnt (fun i => P (cy x i x.length)), hb2.cnt (fun i => P (cy (rt x k) i x.length)), ← (turn_bij x.length k).cnt (fun i => P (cy x i x.length))]
    exact cnt_congr fun j _ => by rw [rt_cy hk hx]) hi
  have := congrArg (fun l => l.getD (x.length - 1) 0) hsame
  simp only [cy_get x _ (show x.length - 1 < x.length by omega), cy_get (rt x k) _ (show x.length - 1 < x.length by omega)] at this
  rw [this, hl]
/-- The bytes of the transform are those of the word. -/
theorem IsPut.perm {x t : List UInt8} {a : Nat} (h : IsPut x t a) : t.Perm x := by
  obtain ⟨σ, h1, h2, _⟩ := h.all
  by_cases hx : x.length = 0
  · rw [List.eq_nil_of_length_eq_zero hx, List.eq_nil_of_length_eq_zero (h.len.trans hx)]
  · have e1 : t = ((List.range x.length).map σ).map (fun i => x.getD (pv x.length i) 0) := by
      refine List.ext_getElem (by simp [h.len]) fun i i1 i2 => ?_
      have hi : i < x.length := by rw [← h.len]; exact i1
      have e := h2 i hi
      rw [List.getD_eq_getElem?_getD, List.getElem?_eq_getElem i1, Option.getD_some] at e
      rw [e]
      simp
      rfl
    have e2 : x = (List.range x.length).map (fun i => x.getD i 0) := by
      refine List.ext_getElem (by simp) fun i i1 i2 => ?_
      simp [List.getD_eq_getElem?_getD, List.getElem?_eq_getElem i1]
    have h3 := (h1.bij.perm.map (fun i => x.getD (pv x.length i) 0))
    have h4 := ((pv_bij x.length).perm.map (fun i => x.getD i 0))
    rw [List.map_map] at h4
    rw [← e1] at h3
    rw [← e2] at h4
    exact h3.trans h4

/-- What holds up to some place only is told by its count. -/
theorem seg {P : Nat → Bool} : ∀ {n}, (∀ i j, i < j → j < n → P j = true → P i = true) → ∀ j, j < n → (j < cnt P n ↔ P j = true)
  | 0, _, j, hj => by omega
  | n + 1, h, j, hj => by
    have ih := seg (n := n) fun i j hij hj => h i j hij (by omega)
    have hc := cnt_le P n
    show j < cnt P n + (P n).toNat ↔ _
    cases hp : P n
    · rw [show false.toNat = 0 from rfl, Nat.add_zero]
      by_cases hjn : j = n
      · subst hjn
        simp [hp]
        omega
      · exact ih j (by omega)
    · have hall : ∀ i, i < n → P i = true := fun i hi => h i n hi (by omega) hp
      have : cnt P n = n := by
        have h1 := cnt_mono (n := n) (P := fun j => decide (j < n)) (Q := P) fun j hj _ => hall j hj
        rw [cnt_below] at h1
        omega
      rw [this, show true.toNat = 1 from rfl]
      by_cases hjn : j = n
      · subst hjn; simp [hp]
      · simp [hall j (by omega)]
        omega
def lowT (x : List UInt8) (σ : Nat → Nat) (q : List UInt8) : Nat := cnt (fun j => decide (cy x (σ j) q.length < q)) x.length
def highT (x : List UInt8) (σ : Nat → Nat) (q : List UInt8) : Nat := cnt (fun j => decide (¬ q < cy x (σ j) q.length)) x.length
theorem lowT_iff {x : List UInt8} {σ : Nat → Nat} (h : Bw x σ) (q : List UInt8) {j : Nat} (hj : j < x.length) : j < lowT x σ q ↔ cy x (σ j) q.length < q := by
  unfold lowT
  rw [seg (fun i j hij hj e => decide_eq_true (le_lt (h.rise q.length i j hij hj) (of_decide_eq_true e))) j hj, decide_eq_true_iff]
theorem highT_iff {x : List UInt8} {σ : Nat → Nat} (h : Bw x σ) (q : List UInt8) {j : Nat} (hj : j < x.length) : j < highT x σ q ↔ ¬ q < cy x (σ j) q.length := by
  unfold highT
  have hs : ∀ i j, i < j → j < x.length → (decide (¬ q < cy x (σ j) q.length)) = true → (decide (¬ q < cy x (σ i) q.length)) = true := fun i j hij hj e => by
    have e1 : ¬ q < cy x (σ j) q.length := of_decide_eq_true e
    exact decide_eq_true (fun hc => e1 (lt_le hc (h.rise q.length i j hij hj)))
  rw [seg (P := fun j => decide (¬ q < cy x (σ j) q.length)) hs j hj, decide_eq_true_iff]
theorem step_cnt {x : List UInt8} {σ : Nat → Nat} (h : Bw x σ) (hx : 0 < x.length) (P : List UInt8 → Bool) (m : Nat) :
    cnt (fun j => P (W x (σ j) (x.length - 1) :: cy x (σ j) m)) x.length = cnt (fun j => P (cy x (σ j) (m + 1))) x.length := by
  rw [h.bij.cnt (fun i => P (cy x i (m + 1))), ← (pv_bij x.length).cnt (fun i => P (cy x i (m + 1))), ← h.bij.cnt (fun i => P (cy x (pv x.length i) (m + 1)))]
  exact cnt_congr fun j _ => by rw [cy_prev hx]
theorem lowT_step {x t : List UInt8} {σ : Nat → Nat} (h : Bw x σ) (hl : t.length = x.length) (ht : ∀ k, k < x.length → t.getD k 0 = W x (σ k) (x.length - 1)) (hx : 0 < x.length) (c : UInt8) (q : List UInt8) :
    sp t c.toNat (lowT x σ q) = lowT x σ (c :: q) := by
  have hle : lowT x σ q ≤ t.length := by rw [hl]; exact cnt_le _ _
  rw [sp_as t _ _ hle, hl]
  unfold lowT
  rw [List.length_cons, ← step_cnt h hx (fun z => decide (z < c :: q))]
  refine cnt_congr fun j hj => decide_eq_decide.2 ?_
  have := lowT_iff h q hj
  unfold lowT at this
  rw [this, cons_lt, show bn t j = (W x (σ j) (x.length - 1)).toNat by unfold bn; rw [ht j hj], UInt8.lt_iff_toNat_lt, ← UInt8.toNat_inj]
theorem highT_step {x t : List UInt8} {σ : Nat → Nat} (h : Bw x σ) (hl : t.length = x.length) (ht : ∀ k, k < x.length → t.getD k 0 = W x (σ k) (x.length - 1)) (hx : 0 < x.length) (c : UInt8) (q : List UInt8) :
    sp t c.toNat (highT x σ q) = highT x σ (c :: q) := by
  have hle : highT x σ q ≤ t.length := by rw [hl]; exact cnt_le _ _
  rw [sp_as t _ _ hle, hl]
  unfold highT
  rw [List.length_cons, ← step_cnt h hx (fun z => decide (¬ c :: q < z))]
  refine cnt_congr fun j hj => decide_eq_decide.2 ?_
  have := highT_iff h q hj
  unfold highT at this
  rw [this, cons_lt, show bn t j = (W x (σ j) (x.length - 1)).toNat by unfold bn; rw [ht j hj], UInt8.lt_iff_toNat_lt, ← UInt8.toNat_inj]
  constructor
  · rintro (h1 | ⟨h1, h2⟩) (h3 | ⟨h3, h4⟩)
    · omega
    · omega
    · omega
    · exact h2 h4
  · intro h1
    by_cases h2 : (W x (σ j) (x.length - 1)).toNat < c.toNat
    · exact .inl h2
    · by_cases h3 : (W x (σ j) (x.length - 1)).toNat = c.toNat
      · exact .inr ⟨h3, fun h4 => h1 (.inr ⟨h3.symm, h4⟩)⟩
      · exact absurd (.inl (by omega)) h1
theorem zero_len {x : List UInt8} (p : List UInt8) (h : x.length = 0) (t : List UInt8) (ht : t.length = x.length) : csn t p = 0 := by
  have := cs_le t p p.length
  unfold csn
  omega
/-- How many places of the ring have q. -/
def occ (x q : List UInt8) : Nat := cnt (fun i => decide (cy x i q.length = q)) x.length
theorem occ_as {x : List UInt8} {σ : Nat → Nat} (h : Bw x σ) (q : List UInt8) : highT x σ q = lowT x σ q + occ x q := by
  unfold highT lowT occ
  rw [← h.bij.cnt (fun i => decide (cy x i q.length = q))]
  refine cnt_or (fun j _ hc => ?_) (fun j _ => ?_)
  · have h1 := of_decide_eq_true hc.1
    rw [of_decide_eq_true hc.2] at h1
    exact irr _ h1
  · rw [← Bool.decide_or]
    refine decide_eq_decide.2 ⟨fun h1 => ?_, ?_⟩
    · by_cases h2 : cy x (σ j) q.length < q
      · exact .inl h2
      · exact .inr (tri h2 h1)
    · rintro (h1 | h1)
      · exact Sm.as_ h1
      · rw [h1]; exact irr _
theorem cnt_zero {P : Nat → Bool} {n : Nat} (h : cnt P n = 0) (j : Nat) (hj : j < n) : P j = false := by
  induction n with
  | zero => omega
  | succ n ih =>
    have h : cnt P n + (P n).toNat = 0 := h
    by_cases hjn : j = n
    · subst hjn
      cases hp : P j
      · rfl
      · rw [hp] at h; simp at h
    · exact ih (by omega) (by omega)
theorem occ_zero {x q : List UInt8} (hx : 0 < x.length) (c : UInt8) (h : occ x q = 0) : occ x (c :: q) = 0 := by
  have hz := cnt_zero h
  have : cnt (fun i => decide (cy x i (c :: q).length = c :: q)) x.length ≤ cnt (fun i => decide (i < 0)) x.length := cnt_mono fun i hi e => by
    have e := of_decide_eq_true e
    rw [List.length_cons, cy_succ] at e
    have e2 := (List.cons.inj e).2
    have := of_decide_eq_false (hz ((i + 1) % x.length) (Nat.mod_lt _ hx))
    refine absurd ?_ this
    rw [← e2]
    rw [cy_len]
    unfold cy
    exact List.map_congr_left fun d _ => W_mod _ _ _
  rw [cnt_below] at this
  unfold occ
  omega
theorem drop_cons {p : List UInt8} {d : Nat} (h : d < p.length) : p.drop (p.length - (d + 1)) = p.getD (p.length - 1 - d) 0 :: p.drop (p.length - d) := by
  rw [List.drop_eq_getElem_cons (by omega), List.getD_eq_getElem?_getD, List.getElem?_eq_getElem (by omega), Option.getD_some]
  congr 1
  · congr 1; omega
  · congr 1; omega
theorem cs_is {x t p : List UInt8} {σ : Nat → Nat} (h : Bw x σ) (hl : t.length = x.length) (ht : ∀ k, k < x.length → t.getD k 0 = W x (σ k) (x.length - 1)) (hx : 0 < x.length) :
    ∀ d, d ≤ p.length → (cs t p d = (lowT x σ (p.drop (p.length - d)), highT x σ (p.drop (p.length - d)))) ∨ ((cs t p d).1 = (cs t p d).2 ∧ occ x (p.drop (p.length - d)) = 0)
  | 0, _ => by
    refine .inl ?_
    rw [Nat.sub_zero, List.drop_length]
    show (0, t.length) = _
    have h1 : lowT x σ [] = 0 := by
      have := cnt_mono (n := x.length) (P := fun j => decide (cy x (σ j) ([] : List UInt8).length < [])) (Q := fun i => decide (i < 0)) fun j _ e => absurd (of_decide_eq_true e) (List.not_lt_nil _)
      rw [cnt_below] at this
      unfold lowT
      omega
    have h2 : highT x σ [] = x.length := by
      have := cnt_mono (n := x.length) (P := fun i => decide (i < x.length)) (Q := fun j => decide (¬ ([] : List UInt8) < cy x (σ j) ([] : List UInt8).length)) fun j _ e => by
        refine decide_eq_true ?_
        rw [show cy x (σ j) ([] : List UInt8).length = [] from rfl]
        exact irr _
      rw [cnt_below] at this
      have h3 := cnt_le (fun j => decide (¬ ([] : List UInt8) < cy x (σ j) ([] : List UInt8).length)) x.length
      unfold highT
      omega
    rw [h1, h2, hl]
  | d + 1, hd => by
    have ih := cs_is (p := p) h hl ht hx d (by omega)
    rw [drop_cons (by omega)]
    have hcs : cs t p (d + 1) = if (cs t p d).1 < (cs t p d).2 then (sp t (Lm.bn p (p.length - 1 - d)) (cs t p d).1, sp t (Lm.bn p (p.length - 1 - d)) (cs t p d).2) else cs t p d := rfl
    have hle := (cs_le t p d).1
    rcases ih with ih | ⟨ih1, ih2⟩
    · by_cases hlt : (cs t p d).1 < (cs t p d).2
      · refine .inl ?_
        rw [hcs, if_pos hlt, ih]
        show (sp t (p.getD (p.length - 1 - d) 0).toNat _, sp t (p.getD (p.length - 1 - d) 0).toNat _) = _
        rw [lowT_step h hl ht hx, highT_step h hl ht hx]
      · refine .inr ?_
        rw [hcs, if_neg hlt]
        refine ⟨by omega, occ_zero hx _ ?_⟩
        have := occ_as h (p.drop (p.length - d))
        rw [ih] at hlt
        have hlt : ¬ lowT x σ (p.drop (p.length - d)) < highT x σ (p.drop (p.length - d)) := hlt
        omega
    · refine .inr ?_
      rw [hcs, if_neg (by omega)]
      exact ⟨ih1, occ_zero hx _ ih2⟩
/-- FERRAGINA, MANZINI: the search from behind counts the places of the ring. -/
theorem IsPut.count {x t : List UInt8} {a : Nat} (h : IsPut x t a) (p : List UInt8) : csn t p = occ x p := by
  obtain ⟨σ, h1, h2, _⟩ := h.all
  by_cases hx : x.length = 0
  · rw [zero_len p hx t h.len]
    unfold occ
    rw [hx]
    rfl
  · have hx : 0 < x.length := by omega
    unfold csn
    rcases cs_is (p := p) h1 h.len h2 hx p.length (Nat.le_refl _) with e | ⟨e1, e2⟩
    · rw [e, Nat.sub_self, List.drop_zero]
      have := occ_as h1 p
      show highT x σ p - lowT x σ p = _
      omega
    · rw [Nat.sub_self, List.drop_zero] at e2
      omega
end Tm
end Go.Proofs.Ytgkagigagcamoaa


/-
What turn.Get may answer, and quillkeep.turns: the example.
-/
namespace Go.Proofs.Ytgkagigagcamoaa
open Go.RowKit

def banS : ByteArray := ⟨#[98, 97, 110, 97, 110, 97]⟩
def nnbS : ByteArray := ⟨#[110, 110, 98, 97, 97, 97]⟩
instance (x : List UInt8) (i j : Nat) : Decidable (Tm.R x i j) := inferInstanceAs (Decidable (_ ∨ _))
def banσ (k : Nat) : Nat := [5, 3, 1, 0, 4, 2].getD k 0
theorem ban_put : Tm.IsPut (lst banS) (lst nnbS) 3 := by
  refine ⟨rfl, ⟨banσ, ⟨⟨?_, ?_⟩, ?_⟩, ?_, fun _ => ⟨by decide, by decide⟩⟩, fun h => absurd h (by decide)⟩
  · have h : ∀ k, k < 6 → banσ k < 6 := by decide +kernel
    exact h
  · have h : ∀ i, i < 6 → ∀ j, j < 6 → banσ i = banσ j → i = j := by decide +kernel
    exact fun i j hi hj => h i hi j hj
  · have h : ∀ j, j < 6 → ∀ i, i < j → Tm.R (lst banS) (banσ i) (banσ j) := by decide +kernel
    exact fun i j hij hj => h j hj i hij
  · have h : ∀ k, k < 6 → (lst nnbS).getD k 0 = Tm.W (lst banS) (banσ k) 5 := by decide +kernel
    exact h
theorem ban_back : gtS nnbS 3 = banS := lst_inj (by rw [gtS_lst, ban_put.back])
/-- What turn.Get answers: an error and nothing, or the word of which t and at are the transform. -/
def GetOut (t : ByteArray) (at_ : Int) (w : World) (e : Ending) (w' : World) : Prop :=
  ((∃ c : Int, (c == 0) = false ∧ (c != 0) = true ∧ e = .returned (.tuple #[.string ByteArray.empty, .int .i64 c])) ∨
    ∃ (S : ByteArray) (n : Nat), at_ = (n : Int) ∧ S.size ≤ 200 ∧ Tm.IsPut (lst S) (lst t) n ∧ e = .returned (.tuple #[.string S, .int .i64 0])) ∧ Below w.heap.size w w'
theorem Put_ban (w : World) : Calls Try.prog 53 #[.string ⟨#[98, 97, 110, 97, 110, 97]⟩] w fun e w' => e = .returned (.tuple #[.string ⟨#[110, 110, 98, 97, 97, 97]⟩, .int .i64 3, .int .i64 0]) ∧ Below w.heap.size w w' := by
  refine (Put_ok banS w (by decide)).mono ?_
  rintro e w1 ⟨t, a, rfl, hp, hb⟩
  obtain ⟨h1, rfl⟩ := hp.unique ban_put
  obtain rfl : t = nnbS := lst_inj h1
  exact ⟨rfl, hb⟩
end Go.Proofs.Ytgkagigagcamoaa

