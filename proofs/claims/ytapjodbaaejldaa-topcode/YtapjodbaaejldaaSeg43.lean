/-
Several texts of this proof, one behind the other.
-/
import Derived.Test.YtapjodbaaejldaaTOrder
import Derived.Test.YtapjodbaaejldaaSeg35
import Derived.Test.YtapjodbaaejldaaBack
import Derived.Deep.WholeRow

/-
The contracts of turn.put and turn.Put.
-/
namespace Go.Proofs.Ytapjodbaaejldaa
open Go.RowKit

/-- The string of the bytes g 0, .., g (n - 1). -/
def strN (n : Nat) (g : Nat → UInt8) : ByteArray := strOfNums ((List.range n).map fun k => ((g k).toNat : Int))
theorem strN_size (n : Nat) (g : Nat → UInt8) : (strN n g).size = n := by unfold strN; rw [strOfNums_size]; simp
theorem strN_lst (n : Nat) (g : Nat → UInt8) : lst (strN n g) = (List.range n).map g := by
  unfold strN lst
  rw [strOfNums_data, List.map_map]
  refine List.map_congr_left fun k _ => ?_
  simp
theorem fill_storeB {w wr : World} {g : Nat → Int} {b B n i : Nat} {t : TypeId} {v : Int} (hrow : wr.rowIs b t n (fun j => .int .u8 (fillG g i j))) (hbel : Below B w wr) (hB : B ≤ b) (hv : v = g i) :
    ∀ d, ((wr.drewN d).setCell ⟨b, i, none⟩ (.int .u8 v)).rowIs b t n (fun j => .int .u8 (fillG g (i + 1) j)) ∧ Below B w ((wr.drewN d).setCell ⟨b, i, none⟩ (.int .u8 v)) := by
  intro d
  refine ⟨(World.rowIs.set (w := wr.drewN d) hrow i _).congr fun j _ => ?_, (bl_drewN hbel d).setCell hB _⟩
  rw [fillG_succ]
  by_cases h : j = i
  · rw [if_pos h, if_pos h, hv]
  · rw [if_neg h, if_neg h]
theorem Try.infoU8 : (Try.prog.info? 5).map (fun i => (i.zero, i.size, i.bytes)) = some (some (.int .u8 0), 1, 1) := by kernel_rfl
theorem conv_row {w : World} {b n : Nat} {g : Nat → UInt8} (h : w.rowIs b 5 n (fun j => .int .u8 (fillG (fun k => ((g k).toNat : Int)) n j))) :
    ∀ i, i < n → w.cell? ⟨b, 0 + i, none⟩ = some (.int .u8 (((List.range n).map fun k => ((g k).toNat : Int)).getD i 0)) := by
  intro i hi
  rw [Nat.zero_add, h.cell hi, fillG_lt hi, List.getD_eq_getElem?_getD, List.getElem?_map, List.getElem?_range hi]
  rfl
/-- What turn.put hands back. -/
def PutRet (s : ByteArray) (w : World) (e : Ending) (w' : World) : Prop :=
  ∃ (t : ByteArray) (a : Nat), e = .returned (.tuple #[.string t, .int .i64 (a : Int)]) ∧ Tm.IsPut (lst s) (lst t) a ∧ Below w.heap.size w w'
theorem rowIs_same {w w' : World} {b n : Nat} {t : TypeId} {f : Nat → Value} (h : w.rowIs b t n f) (hb : w'.heap[b]? = w.heap[b]?) : w'.rowIs b t n f := by
  obtain ⟨c, h1, h2, h3⟩ := h
  exact ⟨c, hb.trans h1, h2, h3⟩
/-- The last byte of the turn from place i. -/
theorem last_byte (s : ByteArray) {i : Nat} (hi : i < s.size) : Tm.W (lst s) i (s.size - 1) = byt s (if i = 0 then s.size - 1 else i - 1) := by
  unfold Tm.W
  rw [lst_len, lst_get]
  by_cases h : i = 0
  · rw [if_pos h, h, Nat.zero_add, Nat.mod_eq_of_lt (by omega)]
  · rw [if_neg h, show i + (s.size - 1) = i - 1 + s.size by omega, Nat.add_mod_right, Nat.mod_eq_of_lt (by omega)]
theorem isput_of (s : ByteArray) {σ : Nat → Nat} {a : Nat} (h : Tm.Bw (lst s) σ) (h1 : ∀ j, j < s.size → σ j = 0 → a = j) (h2 : a = 0 ∨ (a < s.size ∧ σ a = 0)) :
    Tm.IsPut (lst s) (lst (strN s.size fun k => Tm.W (lst s) (σ k) (s.size - 1))) a := by
  rw [strN_lst]
  refine ⟨by rw [lst_len]; simp, ⟨σ, h, fun k hk => ?_, fun hp => ?_⟩, fun hz => ?_⟩
  · rw [lst_len] at hk ⊢
    rw [List.getD_eq_getElem?_getD, List.getElem?_map, List.getElem?_range hk]
    rfl
  · obtain ⟨k, hk, e⟩ := h.bij.onto hp
    rw [lst_len] at hk ⊢
    obtain rfl := h1 k hk e
    exact ⟨hk, e⟩
  · rw [lst_len] at hz
    omega
set_option maxHeartbeats 1000000 in
theorem put_any (s : ByteArray) (w : World) (hs : s.size ≤ 200) : Calls Try.prog 70 #[.string s] w (PutRet s w) := by
  have HMK := hid (fun W => run_make_row' (P := Try.prog) 74 5 (.int .u8 0) 1 Try.underlying74 Try.infoU8 rfl .i64 .i64 s.size (by omega) (by omega) W)
  go_enter Try.func70, Try.ntmps70
  go_wp2_with fail
  with_reducible refine (order_any s _ hs).mono ?_
  rintro e w1 ⟨rfl, ⟨σ, hσ, hrow⟩, hb1⟩
  have hmk := HMK.out w1
  have hmade := World.rowIs_made w1 (.int .u8 0) s.size 5
  have hb0 := bl_then hb1 (bl_new w1 (.cells (madeCells #[.int .u8 0] s.size) 5))
  have hpl := rowIs_same hrow ((bl_new w1 (.cells (madeCells #[.int .u8 0] s.size) 5)).block _ hrow.lt)
  have hlt0 : w.heap.size + 1 < w1.heap.size := hrow.lt
  obtain ⟨bp, hbp⟩ : ∃ bp, bp = w.heap.size + 1 := ⟨_, rfl⟩
  obtain ⟨bl, hbl⟩ : ∃ bl, bl = w1.heap.size := ⟨_, rfl⟩
  rw [← hbp] at hpl hlt0 ⊢
  rw [← hbl] at hmade hmk hlt0
  generalize w1.alloc (.cells (madeCells #[.int .u8 0] s.size) 5) = w2 at hmk hmade hb0 hpl
  have R0 : Hid (w2.rowIs bl 5 s.size (fun j => .int .u8 (fillG (fun k => ((Tm.W (lst s) (σ k) (s.size - 1)).toNat : Int)) 0 j))) := hmade.congr fun j _ => by
    unfold fillG
    rw [if_neg (by omega)]
  have HP := hid hpl
  have HB0 := hid hb0
  have HW := hid hσ
  have hbw : w.heap.size ≤ bl := by omega
  clear hσ hrow HMK hb1 hmade hb0 hpl hbp hbl
  go_wp2
  go_loopw [16, 6] (fun x y wr => ∃ i a : Nat, i ≤ s.size ∧ x = .int .i64 i ∧ y = .int .i64 a ∧ Hid (wr.rowIs bl 5 s.size (fun j => .int .u8 (fillG (fun k => ((Tm.W (lst s) (σ k) (s.size - 1)).toNat : Int)) i j))) ∧ Hid (wr.rowIs bp 3 s.size (fun k => .int .i64 (σ k : Int))) ∧ Hid (Below w.heap.size w wr) ∧ Hid (∀ j, j < i → σ j = 0 → a = j) ∧ Hid (a = 0 ∨ (a < s.size ∧ σ a = 0))) (fun x _ _ => s.size - (intOf x).toNat)
  case atStart => exact ⟨0, 0, by omega, rfl, rfl, R0, HP, HB0, hid (fun j hj => by omega), hid (.inl rfl)⟩
  case round =>
    clear R0 HP HB0 hmk
    obtain ⟨i, a, hi, rfl, rfl, HF, HP, HB, HA1, HA2⟩ := hrel
    by_cases hlt : i < s.size
    · have hlt' : (i : Int) < (s.size : Int) := by omega
      have hroom := HF.out.frozen i
      have hci := HF.out.cell hlt
      have hcp := HP.out.cell hlt
      have hσi : σ i < s.size := by have := HW.out.bij.lt i (by rw [lst_len]; exact hlt); rw [lst_len] at this; exact this
      have hlb := last_byte s hσi
      have HP2 : Hid (∀ v : Value, (wr.setCell ⟨bl, i, none⟩ v).rowIs bp 3 s.size (fun k => .int .i64 (σ k : Int))) := fun v => rowIs_same HP.out (Below.heap_setCell wr ⟨bl, i, none⟩ v bp (by show bp ≠ bl; omega))
      have HFS := hid (fun v hv => fill_storeB (v := v) HF.out HB.out hbw hv 0)
      have hs1 : (s.size : Int) - 1 = ((s.size - 1 : Nat) : Int) := by omega
      obtain ⟨n1, hn1⟩ : ∃ n1, n1 = s.size - 1 := ⟨_, rfl⟩
      rw [← hn1] at hs1 hlb
      have hn1s : (n1 : Int) < (s.size : Int) := by omega
      have hn1t : n1 < s.size := by omega
      by_cases h0 : σ i = 0
      · rw [h0, if_pos rfl, ← h0] at hlb
        have HV := (HFS.out (s[n1].toNat : Int) (by show _ = ((Tm.W (lst s) (σ i) (s.size - 1)).toNat : Int); rw [← hn1, hlb, byt_eq hn1t]))
        rw [h0] at hcp
        have HV2 := hid HV
        have H0 := hid h0
        clear HF HP HB HFS HV hlb hn1 h0
        go_wp2
        go_roundw
        case measure => simp [intOf]; omega
        case rel =>
          refine ⟨i + 1, i, by omega, by go_num, rfl, hid HV2.out.1, hid (HP2.out _), hid HV2.out.2, hid (fun j hj h => ?_), hid (.inr ⟨hlt, H0.out⟩)⟩
          refine HW.out.bij.inj i j (by rw [lst_len]; exact hlt) (by rw [lst_len]; omega) (by rw [h, H0.out])
      · rw [if_neg h0] at hlb
        obtain ⟨f, hf⟩ : ∃ f, σ i = f + 1 := ⟨σ i - 1, by omega⟩
        have hfs : f < s.size := by omega
        have hfs' : (f : Int) < (s.size : Int) := by omega
        rw [hf, Nat.add_sub_cancel, ← hf] at hlb
        have HV := (HFS.out (s[f].toNat : Int) (by show _ = ((Tm.W (lst s) (σ i) (s.size - 1)).toNat : Int); rw [← hn1, hlb, byt_eq hfs]))
        obtain ⟨q, hq⟩ : ∃ q, q = σ i := ⟨_, rfl⟩
        rw [← hq] at hcp
        have hq0 : ((q : Int) == 0) = false := beq_eq_false_iff_ne.2 (by omega)
        have eq1 : (q : Int) - 1 = (f : Int) := by omega
        have hwf : IntKind.i64.wrap (f : Int) = (f : Int) := IntWalk.i64_in _ (by omega)
        have HV2 := hid HV
        have H0 := hid h0
        have hqb : q ≤ 200 := by omega
        clear HF HP HB HFS HV hlb hn1 h0 hf hq
        go_wp2
        go_roundw
        case measure => simp [intOf]; omega
        case rel =>
          refine ⟨i + 1, a, by omega, by go_num, rfl, hid HV2.out.1, hid (HP2.out _), hid HV2.out.2, hid (fun j hj h => ?_), HA2⟩
          by_cases hji : j = i
          · rw [hji] at h; exact absurd h H0.out
          · exact HA1.out j (by omega) h
    · obtain rfl : i = s.size := by omega
      have hlt' : decide ((s.size : Int) < (s.size : Int)) = false := decide_eq_false (by omega)
      have hcv := run_convert_bytes_arg (P := Try.prog) wr 74 5 Try.underlying74 Try.underlying5 bl 0 s.size s.size _ (by simp) (conv_row HF.out) 9 Try.underlying9
      have HI := hid (isput_of s HW.out HA1.out HA2.out)
      rw [show strOfNums ((List.range s.size).map fun k => ((Tm.W (lst s) (σ k) (s.size - 1)).toNat : Int)) = strN s.size (fun k => Tm.W (lst s) (σ k) (s.size - 1)) from rfl] at hcv
      generalize strN s.size (fun k => Tm.W (lst s) (σ k) (s.size - 1)) = t at hcv HI
      clear HF HP HA1 HA2
      go_wp2
      go_ret2
      exact ⟨t, a, rfl, HI.out, HB.out⟩
/-- What turn.Put hands back where there is no error. -/
def PutOk (s : ByteArray) (w : World) (e : Ending) (w' : World) : Prop :=
  ∃ (t : ByteArray) (a : Nat), e = .returned (.tuple #[.string t, .int .i64 (a : Int), .int .i64 0]) ∧ Tm.IsPut (lst s) (lst t) a ∧ Below w.heap.size w w'
theorem Put_ok (s : ByteArray) (w : World) (hs : s.size ≤ 200) : Calls Try.prog 32 #[.string s] w (PutOk s w) := by
  go_enter Try.func32, Try.ntmps32
  go_wp2_with fail
  with_reducible refine (check_ok s _ hs).mono ?_
  rintro e w1 ⟨rfl, rfl⟩
  go_wp2_with fail
  with_reducible refine (put_any s _ hs).mono ?_
  rintro e w1 ⟨t, a, rfl, hp, hb⟩
  have HP := hid hp
  clear hp
  go_wp2
  go_ret3
  exact ⟨t, a, rfl, HP.out, hb⟩
theorem Put_large (s : ByteArray) (w : World) (hs : 200 < s.size) :
    Calls Try.prog 32 #[.string s] w fun e w' => e = .returned (.tuple #[.string ByteArray.empty, .int .i64 0, .int .i64 2]) ∧ w = w' := by
  go_enter Try.func32, Try.ntmps32
  go_wp2_with fail
  with_reducible refine (check_large s _ hs).mono ?_
  rintro e w1 ⟨rfl, rfl⟩
  go_wp2
  go_ret3
  exact ⟨rfl, rfl⟩
end Go.Proofs.Ytapjodbaaejldaa


/-
The contracts of turn.lesser and turn.step: how many bytes are less, and a step of the way back.
-/
namespace Go.Proofs.Ytapjodbaaejldaa
open Go.RowKit

/-- How many of the first m bytes of s are b. -/
def eqN (s : ByteArray) (b m : Nat) : Nat := Tm.cnt (fun i => decide (Lm.bn (lst s) i = b)) m
/-- How many bytes of s are less than b. -/
def lsN (s : ByteArray) (b : Nat) : Nat := Tm.cnt (fun i => decide (Lm.bn (lst s) i < b)) s.size
theorem bn_byte {s : ByteArray} {i : Nat} (h : i < s.size) : Lm.bn (lst s) i = s[i].toNat := by unfold Lm.bn; rw [lst_get, byt_eq h]
theorem sp_is (s : ByteArray) (b m : Nat) : Tm.sp (lst s) b m = lsN s b + eqN s b m := by unfold Tm.sp lsN eqN; rw [lst_len]
theorem eqN_succ {s : ByteArray} {i : Nat} (h : i < s.size) (b : Nat) : eqN s b (i + 1) = if b = s[i].toNat then eqN s b i + 1 else eqN s b i := by
  unfold eqN
  rw [show Tm.cnt (fun i => decide (Lm.bn (lst s) i = b)) (i + 1) = Tm.cnt (fun i => decide (Lm.bn (lst s) i = b)) i + (decide (Lm.bn (lst s) i = b)).toNat from rfl, bn_byte h]
  by_cases e : b = s[i].toNat
  · rw [if_pos e, decide_eq_true e.symm]; rfl
  · rw [if_neg e, decide_eq_false (fun h => e h.symm)]; rfl
theorem eqN_le (s : ByteArray) (b m : Nat) : eqN s b m ≤ m := Tm.cnt_le _ _
theorem lsN_le (s : ByteArray) (b : Nat) : lsN s b ≤ s.size := Tm.cnt_le _ _
theorem lsN_zero (s : ByteArray) : lsN s 0 = 0 := by
  have := Tm.cnt_mono (n := s.size) (P := fun i => decide (Lm.bn (lst s) i < 0)) (Q := fun i => decide (i < 0)) fun j _ h => by simp at h
  rw [Tm.cnt_below] at this
  unfold lsN
  omega
theorem lsN_succ (s : ByteArray) (b : Nat) : lsN s (b + 1) = lsN s b + eqN s b s.size := by
  unfold lsN eqN
  refine Tm.cnt_or (fun j _ h => ?_) (fun j _ => ?_)
  · simp at h; omega
  · rw [← Bool.decide_or]
    exact decide_eq_decide.2 (by omega)
theorem zero47 : Try.zeroCells121 = madeCells #[.int .i64 0] 256 := by kernel_rfl
/-- The three blocks of turn.lesser. -/
structure Les (w0 : World) (N : Nat) (f g : Nat → Nat) (w : World) : Prop where
  fr : w.rowIs (N + 1) 121 256 (fun c => .int .i64 (f c : Int))
  gr : w.rowIs (N + 1 + 1) 121 256 (fun c => .int .i64 (g c : Int))
  bel : Below N w0 w
  own : ∃ f, w.rowIs N 121 256 f
theorem Les.start (w : World) : Les w w.heap.size (fun _ => 0) (fun _ => 0) (((w.alloc (.cells Try.zeroCells121 121)).alloc (.cells Try.zeroCells121 121)).alloc (.cells Try.zeroCells121 121)) := by
  rw [zero47]
  have h1 := World.rowIs_made (w.alloc (.cells (madeCells #[.int .i64 0] 256) 121)) (.int .i64 0) 256 121
  have h2 := World.rowIs_made ((w.alloc (.cells (madeCells #[.int .i64 0] 256) 121)).alloc (.cells (madeCells #[.int .i64 0] 256) 121)) (.int .i64 0) 256 121
  have hb1 := bl_new w (.cells (madeCells #[.int .i64 0] 256) 121)
  have hb2 := bl_new (w.alloc (.cells (madeCells #[.int .i64 0] 256) 121)) (.cells (madeCells #[.int .i64 0] 256) 121)
  have hb3 := bl_new ((w.alloc (.cells (madeCells #[.int .i64 0] 256) 121)).alloc (.cells (madeCells #[.int .i64 0] 256) 121)) (.cells (madeCells #[.int .i64 0] 256) 121)
  have hz1 : (w.alloc (.cells (madeCells #[.int .i64 0] 256) 121)).heap.size = w.heap.size + 1 := by simp
  have hz2 : ((w.alloc (.cells (madeCells #[.int .i64 0] 256) 121)).alloc (.cells (madeCells #[.int .i64 0] 256) 121)).heap.size = w.heap.size + 1 + 1 := by simp
  rw [hz1] at h1
  rw [hz2] at h2
  have h0 := World.rowIs_made w (.int .i64 0) 256 121
  exact ⟨rowIs_same h1 (hb3.block _ (by rw [hz2]; omega)), h2, bl_then (bl_then hb1 hb2) hb3, _, rowIs_same (rowIs_same h0 (hb2.block _ (by rw [hz1]; omega))) (hb3.block _ (by rw [hz2]; omega))⟩
theorem Les.setF {w0 w : World} {N : Nat} {f g f' : Nat → Nat} (h : Les w0 N f g w) (c : Nat) (v : Int) (hf : ∀ j, (f' j : Int) = if j = c then v else (f j : Int)) (d : Nat) : Les w0 N f' g ((w.drewN d).setCell ⟨N + 1, c, none⟩ (.int .i64 v)) := by
  refine ⟨(World.rowIs.set (w := w.drewN d) h.fr c _).congr fun j _ => ?_, rowIs_same h.gr (Below.heap_setCell (w.drewN d) ⟨N + 1, c, none⟩ _ _ (by show N + 1 + 1 ≠ N + 1; omega)), (bl_drewN h.bel d).setCell (by show N ≤ N + 1; omega) _, h.own.imp fun _ h0 => rowIs_same h0 (Below.heap_setCell (w.drewN d) ⟨N + 1, c, none⟩ _ _ (by show N ≠ N + 1; omega))⟩
  rw [hf j]
  by_cases e : j = c
  · rw [if_pos e, if_pos e]
  · rw [if_neg e, if_neg e]
theorem Les.setG {w0 w : World} {N : Nat} {f g g' : Nat → Nat} (h : Les w0 N f g w) (c : Nat) (v : Int) (hf : ∀ j, (g' j : Int) = if j = c then v else (g j : Int)) (d : Nat) : Les w0 N f g' ((w.drewN d).setCell ⟨N + 1 + 1, c, none⟩ (.int .i64 v)) := by
  refine ⟨rowIs_same h.fr (Below.heap_setCell (w.drewN d) ⟨N + 1 + 1, c, none⟩ _ _ (by show N + 1 ≠ N + 1 + 1; omega)), (World.rowIs.set (w := w.drewN d) h.gr c _).congr fun j _ => ?_, (bl_drewN h.bel d).setCell (by show N ≤ N + 1 + 1; omega) _, h.own.imp fun _ h0 => rowIs_same h0 (Below.heap_setCell (w.drewN d) ⟨N + 1 + 1, c, none⟩ _ _ (by show N ≠ N + 1 + 1; omega))⟩
  rw [hf j]
  by_cases e : j = c
  · rw [if_pos e, if_pos e]
  · rw [if_neg e, if_neg e]
/-- The array that turn.lesser hands back. -/
def lesA (s : ByteArray) : Array Value := ((List.range 256).map fun b => Value.int .i64 (lsN s b : Int)).toArray
theorem below_setRow {w wr : World} {N : Nat} (h : Below N w wr) (cs : Array Value) : Below N w (wr.setRow N cs) :=
  ⟨h.os, h.tape, h.output, by have := h.size; simpa [World.setRow] using this, fun k hk => (setRow_other wr N k cs (by omega)).trans (h.block k hk)⟩
theorem lesA_size (s : ByteArray) : (lesA s).size = 256 := by unfold lesA; simp
theorem lesA_one (s : ByteArray) : (lesA s).all (·.oneCell') = true := by
  unfold lesA
  rw [Array.all_eq_true_iff_forall_mem]
  intro v hv
  simp at hv
  obtain ⟨_, _, rfl⟩ := hv
  rfl
set_option maxHeartbeats 1000000 in
theorem lesser_any (s : ByteArray) (w : World) (hs : s.size ≤ 200) : Calls Try.prog 95 #[.string s] w fun e w' => e = .returned (.agg (lesA s)) ∧ Below w.heap.size w w' := by
  have L0 := hid (Les.start w)
  go_enter Try.func95, Try.ntmps95
  go_wp2
  generalize ((w.alloc (.cells Try.zeroCells121 121)).alloc (.cells Try.zeroCells121 121)).alloc (.cells Try.zeroCells121 121) = w0 at *
  go_loopw [9] (fun x wr => ∃ i : Nat, i ≤ s.size ∧ x = .int .i64 i ∧ Hid (Les w w.heap.size (fun c => eqN s c i) (fun _ => 0) wr)) (fun x _ => s.size - (intOf x).toNat)
  case atStart => exact ⟨0, by omega, rfl, L0⟩
  case round =>
    obtain ⟨i, hi, rfl, HL⟩ := hrel
    by_cases hlt : i < s.size
    · have hlt' : (i : Int) < (s.size : Int) := by omega
      have hc : s[i].toNat < 256 := s[i].toNat_lt
      have hc' : (s[i].toNat : Int) < 256 := by omega
      have hcell := HL.out.fr.cell hc
      have hroom := HL.out.fr.frozen s[i].toNat
      obtain ⟨k, hk⟩ : ∃ k, k = eqN s s[i].toNat i := ⟨_, rfl⟩
      have hkb : k ≤ 200 := by have := eqN_le s s[i].toNat i; omega
      rw [← hk] at hcell
      have R := hid (HL.out.setF (f' := fun c => eqN s c (i + 1)) s[i].toNat ((k : Int) + 1) (fun j => by
        rw [eqN_succ hlt]
        by_cases e : j = s[i].toNat
        · rw [if_pos e, if_pos e, hk, e]; rfl
        · rw [if_neg e, if_neg e]) 0)
      clear HL hk
      go_wp2
      go_roundw
      case measure => simp [intOf]; omega
      case rel => exact ⟨i + 1, by omega, by go_num, hid R.out⟩
    · have hlt' : decide ((i : Int) < (s.size : Int)) = false := decide_eq_false (by omega)
      obtain rfl : i = s.size := by omega
      go_wp2
      go_loopw [6] (fun x wr => ∃ b : Nat, 1 ≤ b ∧ b ≤ 256 ∧ x = .int .i64 b ∧ Hid (Les w w.heap.size (fun c => eqN s c s.size) (fun c => if c < b then lsN s c else 0) wr)) (fun x _ => 256 - (intOf x).toNat)
      case atStart =>
        refine ⟨1, by omega, by omega, rfl, ?_⟩
        have h := HL.out
        refine hid ⟨h.fr, h.gr.congr fun c _ => ?_, h.bel, h.own⟩
        by_cases e : c < 1
        · rw [if_pos e, show c = 0 by omega, lsN_zero]
        · rw [if_neg e]
      case round =>
        clear HL
        obtain ⟨b, hb1, hb2, rfl, HL⟩ := hrel
        by_cases hbl : b < 256
        · have hbl' : (b : Int) < 256 := by omega
          obtain ⟨c, hcb⟩ : ∃ c, b = c + 1 := ⟨b - 1, by omega⟩
          have ec : (b : Int) - 1 = (c : Int) := by omega
          have hcl : c < 256 := by omega
          have hcl' : (c : Int) < 256 := by omega
          have hwc : IntKind.i64.wrap (c : Int) = (c : Int) := IntWalk.i64_in _ (by omega)
          have hc0 : (0 : Int) ≤ (c : Int) := by omega
          have h1 := HL.out.fr.cell hcl
          have h2 := HL.out.gr.cell hcl
          have h3 := HL.out.gr.cell hbl
          have hroom := HL.out.gr.frozen b
          rw [if_pos (by omega)] at h2
          have hsu := lsN_succ s c
          have hle := lsN_le s (c + 1)
          obtain ⟨x, hx⟩ : ∃ x, x = eqN s c s.size := ⟨_, rfl⟩
          obtain ⟨y, hy⟩ : ∃ y, y = lsN s c := ⟨_, rfl⟩
          obtain ⟨z, hz⟩ : ∃ z, z = lsN s (c + 1) := ⟨_, rfl⟩
          rw [← hx] at h1
          rw [← hy] at h2
          have ez : (y : Int) + (x : Int) = (z : Int) := by omega
          have hwz : IntKind.i64.wrap (z : Int) = (z : Int) := IntWalk.i64_in _ (by omega)
          have R := hid (HL.out.setG (g' := fun c => if c < b + 1 then lsN s c else 0) b (z : Int) (fun j => by
            by_cases e : j = b
            · rw [if_pos e, if_pos (by omega), hz, e, hcb]
            · rw [if_neg e]
              by_cases e2 : j < b
              · rw [if_pos e2, if_pos (by omega)]
              · rw [if_neg e2, if_neg (by omega)]))
          have HCB := hid hcb
          clear HL hx hy hz hsu hle hcb
          go_wp2
          go_region
          go_wp2
          go_roundw
          case measure => simp [intOf]; omega
          case rel => exact ⟨b + 1, by omega, by omega, by go_num, hid (R.out _)⟩
        · obtain rfl : b = 256 := by omega
          have hd : decide ((256 : Int) < 256) = false := by decide
          obtain ⟨cs, hg, hz⟩ : ∃ cs, wr.heap[w.heap.size + 1 + 1]? = some (.cells cs 121 (0, 0)) ∧ cs = lesA s := by
            obtain ⟨c, h1, h2, h3⟩ := HL.out.gr
            refine ⟨c, h1, Array.ext_getElem? fun i => ?_⟩
            unfold lesA
            by_cases hi : i < 256
            · rw [h3 i hi]
              simp [hi]
            · rw [Array.getElem?_eq_none (by omega), Array.getElem?_eq_none (by simp; omega)]
          obtain ⟨f0, old, ho, hoz, _⟩ := HL.out.own
          have hbel := HL.out.bel
          have hls : cs.size = 256 := by rw [hz]; exact lesA_size s
          have hla : cs.all (·.oneCell') = true := by rw [hz]; exact lesA_one s
          have hinf : (Try.prog.info? 121).map (·.size) = some cs.size := by rw [hls]; kernel_rfl
          have hoz2 : old.size = cs.size := by rw [hls, hoz]
          have HH := hid (setRow_heap wr w.heap.size old cs 121 (0, 0) ho)
          have HB2 : Hid (Below w.heap.size w (wr.setRow w.heap.size cs)) := below_setRow hbel cs
          have HZ := hid hz
          clear HL hz
          go_wp2_with (first | (with_reducible refine wpList_load_row rfl 121 _ rfl (w.heap.size + 1 + 1) rfl 121 cs (0, 0) _ hg Try.underlying121 rfl hinf ?_) | (with_reducible refine wpList_store_row rfl 121 _ _ rfl w.heap.size cs rfl rfl 121 old ho hinf hoz2 hla ?_))
          refine bodyPost_ret (results_cell_row rfl _ _ w.heap.size 121 cs _ _ rfl HH.out Try.underlying121 rfl hinf) rfl ?_
          exact ⟨by rw [HZ.out], HB2.out⟩
set_option maxHeartbeats 400000 in
theorem step_any (s : ByteArray) (b n : Nat) (w : World) (hs : s.size ≤ 200) (hb : b < 256) (hn : n ≤ s.size) :
    Calls Try.prog 96 #[.string s, .agg (lesA s), .int .u8 (b : Int), .int .i64 (n : Int)] w fun e w' => e = .returned (.int .i64 (Tm.sp (lst s) b n : Int)) ∧ Below w.heap.size w w' := by
  have hc0 : (lesA s)[b]? = some (.int .i64 (lsN s b : Int)) := by unfold lesA; simp [hb]
  have hcell : (w.alloc (.cells (lesA s) 121)).cell? ⟨w.heap.size, b, none⟩ = some (.int .i64 (lsN s b : Int)) := by
    rw [cell_of_row _ _ _ _ _ _ (heap_alloc_new w _)]; exact hc0
  have hbel := bl_new w (.cells (lesA s) 121)
  have hb' : (b : Int) < 256 := by omega
  have hsp := sp_is s b n
  have hl := lsN_le s b
  obtain ⟨l, hlx⟩ : ∃ l, l = lsN s b := ⟨_, rfl⟩
  rw [← hlx] at hcell hsp hl
  have HSP := hid hsp
  have hlsz := lesA_size s
  generalize lesA s = cs at *
  clear hc0 hsp hlx
  go_enter Try.func96, Try.ntmps96
  go_wp2
  generalize w.alloc (.cells cs 121) = w0 at *
  go_loopw [15, 9] (fun x y wr => ∃ i k : Nat, i ≤ n ∧ x = .int .i64 i ∧ y = .int .i64 k ∧ Hid (k = l + eqN s b i) ∧ wr = w0) (fun x _ _ => n - (intOf x).toNat)
  case atStart => exact ⟨0, l, by omega, rfl, rfl, hid (by unfold eqN; rfl), rfl⟩
  case round =>
    obtain ⟨i, k, hi, rfl, rfl, HK, rfl⟩ := hrel
    by_cases hlt : i < n
    · have hlt' : (i : Int) < (n : Int) := by omega
      have his : i < s.size := by omega
      have his' : (i : Int) < (s.size : Int) := by omega
      have hes := eqN_succ his b
      have hkb : k ≤ 1000 := by have := HK.out; have := eqN_le s b i; omega
      by_cases he : b = s[i].toNat
      · have heq : ((s[i].toNat : Int) == (b : Int)) = true := beq_iff_eq.2 (by omega)
        rw [if_pos he] at hes
        have HES := hid hes
        clear hes he
        go_wp2
        go_roundw
        case measure => simp [intOf]; omega
        case rel => exact ⟨i + 1, k + 1, by omega, by go_num, by go_num, hid (by rw [HES.out, HK.out]; omega), by trivial⟩
      · have heq : ((s[i].toNat : Int) == (b : Int)) = false := beq_eq_false_iff_ne.2 (by omega)
        rw [if_neg he] at hes
        have HES := hid hes
        clear hes he
        go_wp2
        go_roundw
        case measure => simp [intOf]; omega
        case rel => exact ⟨i + 1, k, by omega, by go_num, rfl, hid (by rw [HES.out, HK.out]), by trivial⟩
    · obtain rfl : n = i := by omega
      have hlt' : decide ((n : Int) < (n : Int)) = false := decide_eq_false (by omega)
      go_wp2
      go_ret
      exact ⟨ret_int (by rw [HSP.out, HK.out]), hbel⟩
end Go.Proofs.Ytapjodbaaejldaa


/-
The contracts of turn.get, turn.Get and turn.Count.
-/
namespace Go.Proofs.Ytapjodbaaejldaa
open Go.RowKit

def lesL (s : ByteArray) : List Value := (List.range 256).map fun b => Value.int .i64 (lsN s b : Int)
theorem step_call (s : ByteArray) (b n : Nat) (w : World) (hs : s.size ≤ 200) (hb : b < 256) (hn : n ≤ s.size) :
    Calls Try.prog 96 #[.string s, .agg (lesL s).toArray, .int .u8 (b : Int), .int .i64 (n : Int)] w fun e w' => e = .returned (.int .i64 (Tm.sp (lst s) b n : Int)) ∧ Below w.heap.size w w' := step_any s b n w hs hb hn
theorem range_keep {w w' : World} {N M : Nat} {cs : List Value} (h : w.rangeAt N 0 cs) (hb : Below M w w') (hN : N < M) : w'.rangeAt N 0 cs :=
  fun j v hv => (hb.cell (p := ⟨N, 0 + j, none⟩) hN).trans (h j v hv)
theorem range_keep2 {w w' : World} {N M : Nat} {cs : List Value} (hb : Below M w w') (h : w.rangeAt N 0 cs) (hN : N < M) : w'.rangeAt N 0 cs := range_keep h hb hN
theorem range_set {w w' : World} {N bl i : Nat} {v : Value} {cs : List Value} (h : w.rangeAt N 0 cs) (hw : w' = w.setCell ⟨bl, i, none⟩ v) (hN : N ≠ bl) : w'.rangeAt N 0 cs := by
  subst hw
  exact fun j u hu => (World.cell?_of_block (a := ⟨N, 0 + j, none⟩) (Below.heap_setCell w ⟨bl, i, none⟩ v N hN)).trans (h j u hu)
theorem range_row {w : World} {N : Nat} {old : Array Value} (s : ByteArray) (h : w.heap[N]? = some (.cells old 121 (0, 0))) : (w.setRow N (lesA s)).rangeAt N 0 (lesL s) := by
  intro j v hv
  rw [Nat.zero_add, cell_setRow_same w N j old (lesA s) 121 (0, 0) h]
  unfold lesA
  rw [List.getElem?_toArray]
  exact hv
theorem lesL_len (s : ByteArray) : (lesL s).length = 256 := by unfold lesL; simp
/-- What is written when the bytes are stored from behind down to k. -/
def backG (g : Nat → UInt8) (k j : Nat) : Int := if k ≤ j then ((g j).toNat : Int) else 0
theorem back_store {w wr : World} {g : Nat → UInt8} {b B n k : Nat} {t : TypeId} {v : Int} (hrow : wr.rowIs b t n (fun j => .int .u8 (backG g (k + 1) j))) (hbel : Below B w wr) (hB : B ≤ b) (hv : v = ((g k).toNat : Int)) :
    (wr.setCell ⟨b, k, none⟩ (.int .u8 v)).rowIs b t n (fun j => .int .u8 (backG g k j)) ∧ Below B w (wr.setCell ⟨b, k, none⟩ (.int .u8 v)) := by
  refine ⟨(World.rowIs.set hrow k _).congr fun j _ => ?_, hbel.setCell hB _⟩
  unfold backG
  by_cases h : j = k
  · rw [if_pos h, if_pos (by omega), hv, h]
  · rw [if_neg h]
    by_cases h2 : k + 1 ≤ j
    · rw [if_pos h2, if_pos (by omega)]
    · rw [if_neg h2, if_neg (by omega)]
theorem conv_back {w : World} {b n : Nat} {g : Nat → UInt8} (h : w.rowIs b 5 n (fun j => .int .u8 (backG g 0 j))) :
    ∀ i, i < n → w.cell? ⟨b, 0 + i, none⟩ = some (.int .u8 (((List.range n).map fun k => ((g k).toNat : Int)).getD i 0)) := by
  intro i hi
  rw [Nat.zero_add, h.cell hi, List.getD_eq_getElem?_getD, List.getElem?_map, List.getElem?_range hi]
  rfl
/-- The byte that the way back tells at place k. -/
def gtB (t : ByteArray) (a k : Nat) : UInt8 := (lst t).getD (Tm.lf (lst t) a (t.size - 1 - k)) 0
theorem gtB_lst (t : ByteArray) (a : Nat) : lst (strN t.size (gtB t a)) = Tm.gt (lst t) a := by
  rw [strN_lst]
  unfold Tm.gt gtB
  rw [lst_len]
set_option maxRecDepth 100000 in
set_option maxHeartbeats 1000000 in
theorem get_any (t : ByteArray) (a : Nat) (w : World) (hs : t.size ≤ 200) (ha : a < t.size ∨ t.size = 0) : Calls Try.prog 80 #[.string t, .int .i64 (a : Int)] w fun e w' => e = .returned (.string (strN t.size (gtB t a))) ∧ Below w.heap.size w w' := by
  have HMK := hid (fun W => run_make_row' (P := Try.prog) 74 5 (.int .u8 0) 1 Try.underlying74 Try.infoU8 rfl .i64 .i64 t.size (by omega) (by omega) W)
  have hu47 := Try.underlying121
  have hi47 : (Try.prog.info? 121).map (·.size) = some (lesL t).length := by rw [lesL_len]; kernel_rfl
  have hin : (Try.prog.info? 121).map (·.size) = some (lesA t).size := by rw [lesA_size]; kernel_rfl
  go_enter Try.func80, Try.ntmps80
  go_wp2_with fail
  with_reducible refine (lesser_any t _ hs).mono ?_
  rintro e w1 ⟨rfl, hb1⟩
  have ho := heap_alloc_new w1 (.cells Try.zeroCells121 121)
  have hoz : Try.zeroCells121.size = (lesA t).size := by rw [zero47, lesA_size]; simp [madeCells]
  have hRG := range_row t ho
  have hw2 := World.setRow_alloc_new w1 Try.zeroCells121 (lesA t) 121
  rw [hw2] at hRG
  have hbel2 := bl_then hb1 (bl_new w1 (.cells (lesA t) 121))
  have hsz2 : w1.heap.size < (w1.alloc (.cells (lesA t) 121)).heap.size := by simp
  have hone := lesA_one t
  have hmk := HMK.out (w1.alloc (.cells (lesA t) 121))
  have hNw := hb1.size
  go_wp2_with (first | (with_reducible refine wpList_store_row rfl 121 _ _ rfl w1.heap.size (lesA t) rfl rfl 121 Try.zeroCells121 ho hin hoz hone ?_; rw [hw2]))
  have hmade := World.rowIs_made (w1.alloc (.cells (lesA t) 121)) (.int .u8 0) t.size 5
  have hbel3 := bl_then hbel2 (bl_new (w1.alloc (.cells (lesA t) 121)) (.cells (madeCells #[.int .u8 0] t.size) 5))
  have hRG3 := range_keep hRG (bl_new (w1.alloc (.cells (lesA t) 121)) (.cells (madeCells #[.int .u8 0] t.size) 5)) hsz2
  have hz3 : (w1.alloc (.cells (lesA t) 121)).heap.size = w1.heap.size + 1 := by simp
  rw [hz3] at hmade
  have R0 : Hid (((w1.alloc (.cells (lesA t) 121)).alloc (.cells (madeCells #[.int .u8 0] t.size) 5)).rowIs (w1.heap.size + 1) 5 t.size (fun j => .int .u8 (backG (gtB t a) t.size j))) := hmade.congr fun j hj => by
    unfold backG
    rw [if_neg (by omega)]
  generalize (w1.alloc (.cells (lesA t) 121)).alloc (.cells (madeCells #[.int .u8 0] t.size) 5) = w3 at *
  have HB3 := hid hbel3
  have HR3 := hid hRG3
  clear hmk HMK ho hoz hRG hw2 hbel2 hsz2 hone hmade hbel3 hRG3 hz3 hin hb1
  generalize hLA : lesA t = LA
  clear hLA
  generalize w1.heap.size = N at *
  go_loopw [7, 1] (fun x y wr => ∃ (k a' : Nat) (z : Int), k ≤ t.size ∧ x = .int .i64 z ∧ y = .int .i64 (a' : Int) ∧ z = (k : Int) - 1 ∧ Hid (a' = Tm.lf (lst t) a (t.size - k)) ∧ Hid (wr.rowIs (N + 1) 5 t.size (fun j => .int .u8 (backG (gtB t a) k j))) ∧ Hid (Below w.heap.size w wr) ∧ Hid (wr.rangeAt N 0 (lesL t))) (fun x _ _ => ((intOf x) + 1).toNat)
  case atStart => exact ⟨t.size, a, (t.size : Int) - 1, Nat.le_refl _, rfl, rfl, rfl, hid (by rw [Nat.sub_self]; rfl), R0, HB3, HR3⟩
  case round =>
    clear R0 HB3 HR3
    obtain ⟨k, a', z, hk, rfl, rfl, hz, HA, HR, HB, HG⟩ := hrel
    by_cases hk0 : 0 < k
    · obtain ⟨k1, hk1⟩ : ∃ k1, k = k1 + 1 := ⟨k - 1, by omega⟩
      obtain rfl : z = (k1 : Int) := by omega
      have hlt := Tm.lf_lt (lst t) (a := a) (by rw [lst_len]; omega) (t.size - k)
      rw [← HA.out, lst_len] at hlt
      have hlt' : (a' : Int) < (t.size : Int) := by omega
      have hk1t : k1 < t.size := by omega
      have hk1t' : (k1 : Int) < (t.size : Int) := by omega
      have hroom := HR.out.frozen k1
      have hcell := HR.out.cell hk1t
      have hz2 : decide ((0 : Int) ≤ (k1 : Int)) = true := decide_eq_true (by omega)
      have hbt : t[a'].toNat < 256 := t[a'].toNat_lt
      have hgb : gtB t a k1 = t[a'] := by
        unfold gtB
        rw [show t.size - 1 - k1 = t.size - k by omega, ← HA.out, lst_get, byt_eq hlt]
      have R := hid (back_store (v := (t[a'].toNat : Int)) (k := k1) (by rw [← hk1]; exact HR.out) HB.out (by omega) (by rw [hgb]))
      have hRG : (wr.setCell ⟨N + 1, k1, none⟩ (.int .u8 (t[a'].toNat : Int))).rangeAt N 0 (lesL t) := range_set HG.out rfl (by omega)
      have hNb : N < (wr.setCell ⟨N + 1, k1, none⟩ (.int .u8 (t[a'].toNat : Int))).heap.size := by have := HR.out.lt; simp; omega
      have hsp : Tm.sp (lst t) t[a'].toNat a' = Tm.lf (lst t) a (t.size - k1) := by
        rw [show t.size - k1 = t.size - k + 1 by omega]
        show _ = Tm.sp (lst t) (Lm.bn (lst t) (Tm.lf (lst t) a (t.size - k))) (Tm.lf (lst t) a (t.size - k))
        rw [← HA.out, bn_byte hlt]
      have HSP := hid hsp
      have HC := hid (fun W => step_call t t[a'].toNat a' W hs hbt (by omega))
      rw [hsp] at HC
      obtain ⟨r, hr⟩ : ∃ r, r = Tm.lf (lst t) a (t.size - k1) := ⟨_, rfl⟩
      rw [← hr] at HC
      have HRR := hid hr
      have hrow2 := HR.out.lt
      have HKB := hid (bl_drewN R.out.2)
      have HKL := hid (show ∀ d, N + 1 + 1 ≤ ((wr.setCell ⟨N + 1, k1, none⟩ (.int .u8 (t[a'].toNat : Int))).drewN d).heap.size from fun d => by have := HR.out.lt; simp; omega)
      have HKK := hid hk1
      clear HA HR HB HG hgb hsp hr hk1 hz
      go_wp2
      generalize wr.setCell ⟨N + 1, k1, none⟩ (.int .u8 (t[a'].toNat : Int)) = wq at *
      go_region_held3 (fun W => W.rangeAt N 0 (lesL t)) (first | exact hRG | assumption) (first | (go_at_call 96; (with_reducible refine (HC.out _).mono ?_); rintro e w8 ⟨rfl, hb8⟩; have hS8 : w8.rangeAt N 0 (lesL t) := range_keep2 hb8 hRG hNb; have HB8 := hid hb8; clear hb8))
      go_wp2
      go_roundw
      case measure => simp [intOf]
      case rel =>
        have hk := HKK.out
        have hb9 := HB8.out
        refine ⟨k1, r, (k1 : Int) - 1, by omega, rfl, rfl, rfl, HRR, hid (rowIs_same R.out.1 (hb9.block _ ?_)), hid (bl_then R.out.2.drew hb9), hid ‹_›⟩
        have := HKL.out 0
        exact this
    · obtain rfl : k = 0 := by omega
      have hzd : decide ((0 : Int) ≤ z) = false := decide_eq_false (by omega)
      clear hz
      have hcv := run_convert_bytes_arg (P := Try.prog) wr 74 5 Try.underlying74 Try.underlying5 (N + 1) 0 t.size t.size _ (by simp) (conv_back HR.out) 9 Try.underlying9
      rw [show strOfNums ((List.range t.size).map fun k => ((gtB t a k).toNat : Int)) = strN t.size (gtB t a) from rfl] at hcv
      obtain ⟨S, hS⟩ : ∃ S, S = strN t.size (gtB t a) := ⟨_, rfl⟩
      rw [← hS] at hcv
      have HS := hid hS
      clear HA HR HG hS
      go_wp2
      go_ret
      exact ⟨congrArg (fun q => Ending.returned (.string q)) HS.out, HB.out⟩
theorem lst_inj {a b : ByteArray} (h : lst a = lst b) : a = b := by
  cases a; cases b
  unfold lst at h
  simp at h
  rw [h]
theorem Get_large (t : ByteArray) (at_ : Int) (w : World) (hs : 200 < t.size) : Calls Try.prog 41 #[.string t, .int .i64 at_] w fun e w' => e = .returned (.tuple #[.string ByteArray.empty, .int .i64 2]) ∧ w = w' := by
  go_enter Try.func41, Try.ntmps41
  go_wp2_with fail
  with_reducible refine (check_large t _ hs).mono ?_
  rintro e w1 ⟨rfl, rfl⟩
  go_wp2
  go_ret2
  exact ⟨rfl, rfl⟩
theorem Get_arg (t : ByteArray) (at_ : Int) (w : World) (hs : t.size ≤ 200) (ha : at_ < 0 ∨ ((max t.size 1 : Nat) : Int) ≤ at_) : Calls Try.prog 41 #[.string t, .int .i64 at_] w fun e w' => e = .returned (.tuple #[.string ByteArray.empty, .int .i64 1]) ∧ w = w' := by
  obtain ⟨m, hm⟩ : ∃ m, m = max t.size 1 := ⟨_, rfl⟩
  rw [← hm] at ha
  have em : max (t.size : Int) 1 = (m : Int) := by omega
  have em2 : (if (t.size : Int) < 1 then (1 : Int) else (t.size : Int)) = (m : Int) := by split <;> omega
  clear hm
  by_cases h0 : at_ < 0
  · have hd : decide (at_ < 0) = true := decide_eq_true h0
    go_enter Try.func41, Try.ntmps41
    go_wp2_with fail
    with_reducible refine (check_ok t _ hs).mono ?_
    rintro e w1 ⟨rfl, rfl⟩
    go_wp2
    go_ret2
    exact ⟨rfl, rfl⟩
  · have hd : decide (at_ < 0) = false := decide_eq_false h0
    have h1 : (m : Int) ≤ at_ := by omega
    have hd1 : decide ((m : Int) ≤ at_) = true := decide_eq_true h1
    go_enter Try.func41, Try.ntmps41
    go_wp2_with fail
    with_reducible refine (check_ok t _ hs).mono ?_
    rintro e w1 ⟨rfl, rfl⟩
    go_wp2
    go_ret2
    exact ⟨rfl, rfl⟩
/-- The word that turn.get tells. -/
def gtS (t : ByteArray) (a : Nat) : ByteArray := strN t.size (gtB t a)
theorem gtS_lst (t : ByteArray) (a : Nat) : lst (gtS t a) = Tm.gt (lst t) a := gtB_lst t a
theorem gtS_size (t : ByteArray) (a : Nat) : (gtS t a).size = t.size := strN_size _ _
theorem Get_fit (t : ByteArray) (a : Nat) (w : World) (hs : t.size ≤ 200) (ha : a < max t.size 1) :
    Calls Try.prog 41 #[.string t, .int .i64 (a : Int)] w fun e w' =>
      ((Tm.IsPut (Tm.gt (lst t) a) (lst t) a ∧ e = .returned (.tuple #[.string (gtS t a), .int .i64 0])) ∨ (¬ Tm.IsPut (Tm.gt (lst t) a) (lst t) a ∧ e = .returned (.tuple #[.string ByteArray.empty, .int .i64 3]))) ∧ Below w.heap.size w w' := by
  obtain ⟨m, hm⟩ : ∃ m, m = max t.size 1 := ⟨_, rfl⟩
  have em : max (t.size : Int) 1 = (m : Int) := by omega
  have em2 : (if (t.size : Int) < 1 then (1 : Int) else (t.size : Int)) = (m : Int) := by split <;> omega
  have hd0 : decide ((a : Int) < 0) = false := decide_eq_false (by omega)
  have hd1 : decide ((m : Int) ≤ (a : Int)) = false := decide_eq_false (by omega)
  have ha2 : a < t.size ∨ t.size = 0 := by omega
  clear hm
  have hgs := gtS_size t a
  go_enter Try.func41, Try.ntmps41
  go_wp2_with fail
  with_reducible refine (check_ok t _ hs).mono ?_
  rintro e w1 ⟨rfl, rfl⟩
  go_wp2_with fail
  with_reducible refine (get_any t a _ hs ha2).mono ?_
  rintro e w1 ⟨rfl, hb1⟩
  rw [show strN t.size (gtB t a) = gtS t a from rfl]
  go_wp2_with fail
  with_reducible refine (put_any (gtS t a) _ (by omega)).mono ?_
  rintro e w2 ⟨u, k, rfl, hp, hb2⟩
  have hb3 := bl_then hb1 hb2
  rw [gtS_lst] at hp
  have HP := hid hp
  clear hp hb1 hb2 hgs
  obtain ⟨S, hS⟩ : ∃ S, S = gtS t a := ⟨_, rfl⟩
  rw [← hS]
  have HS := hid hS
  clear hS
  by_cases hut : u = t
  · subst hut
    have hd2 : (u.toList == u.toList) = true := by simp
    by_cases hka : k = a
    · subst hka
      have hd3 : ((k : Int) != (k : Int)) = false := by simp
      go_wp2
      go_ret2
      exact ⟨.inl ⟨HP.out, by rw [HS.out]; rfl⟩, hb3⟩
    · have hd3 : ((k : Int) != (a : Int)) = true := bne_iff_ne.2 (by omega)
      have HK := hid hka
      clear hka
      go_wp2
      go_ret2
      exact ⟨.inr ⟨fun h => HK.out (HP.out.unique h).2, rfl⟩, hb3⟩
  · have hd2 : (u.toList == t.toList) = false := beq_eq_false_iff_ne.2 fun e => hut (list_eq.1 e)
    have HU := hid hut
    clear hut
    go_wp2
    go_ret2
    exact ⟨.inr ⟨fun h => HU.out (lst_inj (HP.out.unique h).1), rfl⟩, hb3⟩
end Go.Proofs.Ytapjodbaaejldaa


/-
The contract of turn.Count.
-/
namespace Go.Proofs.Ytapjodbaaejldaa
open Go.RowKit

namespace Tm
/-- LOW and HIGH behind d bytes of the search. -/
def cs (t p : List UInt8) : Nat → Nat × Nat
  | 0 => (0, t.length)
  | d + 1 => if (cs t p d).1 < (cs t p d).2 then (sp t (Lm.bn p (p.length - 1 - d)) (cs t p d).1, sp t (Lm.bn p (p.length - 1 - d)) (cs t p d).2) else cs t p d
theorem cs_le (t p : List UInt8) : ∀ d, (cs t p d).1 ≤ (cs t p d).2 ∧ (cs t p d).2 ≤ t.length
  | 0 => ⟨Nat.zero_le _, Nat.le_refl _⟩
  | d + 1 => by
    have ih := cs_le t p d
    unfold cs
    split
    · exact ⟨sp_mono t _ ih.1 ih.2, sp_le t _ _ ih.2⟩
    · exact ih
theorem cs_stop (t p : List UInt8) {d : Nat} (h : ¬ (cs t p d).1 < (cs t p d).2) : ∀ e, cs t p (d + e) = cs t p d
  | 0 => rfl
  | e + 1 => by
    have ih := cs_stop t p h e
    show (if (cs t p (d + e)).1 < (cs t p (d + e)).2 then _ else cs t p (d + e)) = _
    rw [ih, if_neg h]
def csn (t p : List UInt8) : Nat := (cs t p p.length).2 - (cs t p p.length).1
end Tm
set_option maxRecDepth 100000 in
set_option maxHeartbeats 1000000 in
theorem Count_ok (t p : ByteArray) (w : World) (hs : t.size ≤ 200) (hp : p.size ≤ 200) :
    Calls Try.prog 51 #[.string t, .string p] w fun e w' => e = .returned (.tuple #[.int .i64 (Tm.csn (lst t) (lst p) : Int), .int .i64 0]) ∧ Below w.heap.size w w' := by
  have hu47 := Try.underlying121
  have hi47 : (Try.prog.info? 121).map (·.size) = some (lesL t).length := by rw [lesL_len]; kernel_rfl
  have hin : (Try.prog.info? 121).map (·.size) = some (lesA t).size := by rw [lesA_size]; kernel_rfl
  go_enter Try.func51, Try.ntmps51
  go_wp2_with fail
  with_reducible refine (check_ok t _ hs).mono ?_
  rintro e w1 ⟨rfl, rfl⟩
  go_wp2_with fail
  with_reducible refine (check_ok p _ hp).mono ?_
  rintro e w1 ⟨rfl, rfl⟩
  go_wp2_with fail
  with_reducible refine (lesser_any t _ hs).mono ?_
  rintro e w1 ⟨rfl, hb1⟩
  have ho := heap_alloc_new w1 (.cells Try.zeroCells121 121)
  have hoz : Try.zeroCells121.size = (lesA t).size := by rw [zero47, lesA_size]; simp [madeCells]
  have hRG := range_row t ho
  have hw2 := World.setRow_alloc_new w1 Try.zeroCells121 (lesA t) 121
  rw [hw2] at hRG
  have hbel2 := bl_then hb1 (bl_new w1 (.cells (lesA t) 121))
  have hsz2 : w1.heap.size < (w1.alloc (.cells (lesA t) 121)).heap.size := by simp
  have hone := lesA_one t
  have hNw := hb1.size
  go_wp2_with (first | (with_reducible refine wpList_store_row rfl 121 _ _ rfl w1.heap.size (lesA t) rfl rfl 121 Try.zeroCells121 ho hin hoz hone ?_; rw [hw2]))
  generalize w1.alloc (.cells (lesA t) 121) = w3 at *
  have HB3 := hid hbel2
  have HR3 := hid hRG
  have HZ3 := hid hsz2
  clear ho hoz hRG hw2 hbel2 hsz2 hone hin hb1
  generalize hLA : lesA t = LA
  clear hLA
  generalize w1.heap.size = N at *
  go_loopw [11, 9, 10] (fun x y v wr => ∃ (k lo hi : Nat) (z : Int), k ≤ p.size ∧ x = .int .i64 z ∧ y = .int .i64 (lo : Int) ∧ v = .int .i64 (hi : Int) ∧ z = (k : Int) - 1 ∧ lo ≤ hi ∧ hi ≤ t.size ∧ Hid ((lo, hi) = Tm.cs (lst t) (lst p) (p.size - k)) ∧ Hid (Below w.heap.size w wr) ∧ Hid (wr.rangeAt N 0 (lesL t)) ∧ Hid (N < wr.heap.size)) (fun x _ _ _ => ((intOf x) + 1).toNat)
  case atStart => exact ⟨p.size, 0, t.size, (p.size : Int) - 1, Nat.le_refl _, rfl, rfl, rfl, rfl, by omega, by omega, hid (by rw [Nat.sub_self, ← lst_len t]; rfl), HB3, HR3, HZ3⟩
  case round =>
    clear HB3 HR3 HZ3
    obtain ⟨k, lo, hi, z, hk, rfl, rfl, rfl, hz, hlh, hht, HA, HB, HG, HN⟩ := hrel
    have fin : (k = 0 ∨ ¬ lo < hi) → Hid (((hi - lo : Nat) : Int) = (Tm.csn (lst t) (lst p) : Int)) := by
      intro h
      have hA := HA.out
      refine congrArg Int.ofNat ?_
      unfold Tm.csn
      rw [lst_len]
      rcases h with h | h
      · rw [h, Nat.sub_zero] at hA
        rw [← hA]
      · have := Tm.cs_stop (lst t) (lst p) (d := p.size - k) (by rw [← hA]; exact h) k
        rw [Nat.sub_add_cancel hk] at this
        rw [this, ← hA]
    by_cases hk0 : 0 < k
    · obtain ⟨k1, hk1⟩ : ∃ k1, k = k1 + 1 := ⟨k - 1, by omega⟩
      obtain rfl : z = (k1 : Int) := by omega
      have hz2 : decide ((0 : Int) ≤ (k1 : Int)) = true := decide_eq_true (by omega)
      by_cases hlo : lo < hi
      · have hlo' : (lo : Int) < (hi : Int) := by omega
        have hk1p : k1 < p.size := by omega
        have hk1p' : (k1 : Int) < (p.size : Int) := by omega
        have hbt : p[k1].toNat < 256 := p[k1].toNat_lt
        have HC1 := hid (fun W => step_call t p[k1].toNat lo W hs hbt (by omega))
        have HC2 := hid (fun W => step_call t p[k1].toNat hi W hs hbt (by omega))
        have hA2 : (Tm.sp (lst t) p[k1].toNat lo, Tm.sp (lst t) p[k1].toNat hi) = Tm.cs (lst t) (lst p) (p.size - k1) := by
          rw [show p.size - k1 = p.size - k + 1 by omega]
          unfold Tm.cs
          rw [← HA.out, if_pos hlo, lst_len, show p.size - 1 - (p.size - k) = k1 by omega, bn_byte hk1p]
        have hmono := Tm.sp_mono (lst t) p[k1].toNat (m := lo) (k := hi) (by omega) (by rw [lst_len]; exact hht)
        have hle := Tm.sp_le (lst t) p[k1].toNat hi (by rw [lst_len]; exact hht)
        rw [lst_len] at hle
        generalize Tm.sp (lst t) p[k1].toNat lo = lo2 at *
        generalize Tm.sp (lst t) p[k1].toNat hi = hi2 at *
        have hRG := HG.out
        have hNb := HN.out
        have HA2 := hid hA2
        have HKK := hid hk1
        clear HA HG HN hk1 hz hA2 fin
        go_wp2
        refine wp_region_held_drew (S := fun W => W.rangeAt N 0 (lesL t)) (by kernel_rfl) hRG (fun hHeld => ?_)
        refine wpAnyH_take (i := 0) (oi := { dst := some 38, op := Op.move (Operand.tmp 0), type := 9, pos := "turn.go:50", after := #[], guard := none }) (v := .string t) rfl (by kernel_rfl) (by kernel_rfl) (by kernel_rfl) (fun _ _ _ h => h) (Or.inl ⟨by rfl, fun w hSw => ?_⟩) hHeld ?_
        · go_simp
        simp only [Act.put, List.setIfInBounds_toArray, List.set_cons_zero, List.set_cons_succ]
        refine wpAnyH_take (i := 1) (oi := { dst := some 39, op := Op.load 121 (Operand.tmp 8), type := 121, pos := "turn.go:50", after := #[], guard := none }) (v := .agg (lesL t).toArray) rfl (by kernel_rfl) (by kernel_rfl) (by kernel_rfl) (fun _ _ _ h => h) (yieldsIf_load_mid (by rfl) _ _ rfl N 0 rfl (lesL t) _ (fun w h => h) hu47 rfl hi47) hHeld ?_
        simp only [Act.put, List.setIfInBounds_toArray, List.set_cons_zero, List.set_cons_succ]
        refine wpAnyH_take (i := 2) (oi := { dst := some 40, op := Op.move (Operand.tmp 1), type := 9, pos := "turn.go:50", after := #[], guard := none }) (v := .string p) rfl (by kernel_rfl) (by kernel_rfl) (by kernel_rfl) (fun _ _ _ h => h) (Or.inl ⟨by rfl, fun w hSw => ?_⟩) hHeld ?_
        · go_simp
        simp only [Act.put, List.setIfInBounds_toArray, List.set_cons_zero, List.set_cons_succ]
        refine wpAnyH_take (i := 3) (oi := { dst := some 41, op := Op.move (Operand.tmp 11), type := 3, pos := "turn.go:50", after := #[], guard := none }) (v := .int .i64 (k1 : Int)) rfl (by kernel_rfl) (by kernel_rfl) (by kernel_rfl) (fun _ _ _ h => h) (Or.inl ⟨by rfl, fun w hSw => ?_⟩) hHeld ?_
        · go_simp
        simp only [Act.put, List.setIfInBounds_toArray, List.set_cons_zero, List.set_cons_succ]
        refine wpAnyH_take (i := 4) (oi := { dst := some 42, op := Op.index 9 (Operand.tmp 40) (Operand.tmp 41), type := 5, pos := "turn.go:50", after := #[{ on := 2, ground := Ground.data }, { on := 3, ground := Ground.data }], guard := none }) (v := .int .u8 (p[k1].toNat : Int)) rfl (by kernel_rfl) (by kernel_rfl) (by kernel_rfl) (fun _ _ _ h => h) (Or.inl ⟨by rfl, fun w hSw => ?_⟩) hHeld ?_
        · go_simp
        simp only [Act.put, List.setIfInBounds_toArray, List.set_cons_zero, List.set_cons_succ]
        refine wpAnyH_take (i := 5) (oi := { dst := some 43, op := Op.move (Operand.tmp 9), type := 3, pos := "turn.go:50", after := #[], guard := none }) (v := .int .i64 (lo : Int)) rfl (by kernel_rfl) (by kernel_rfl) (by kernel_rfl) (fun _ _ _ h => h) (Or.inl ⟨by rfl, fun w hSw => ?_⟩) hHeld ?_
        · go_simp
        simp only [Act.put, List.setIfInBounds_toArray, List.set_cons_zero, List.set_cons_succ]
        refine wpAnyH_take (i := 7) (oi := { dst := some 45, op := Op.move (Operand.tmp 0), type := 9, pos := "turn.go:50", after := #[], guard := none }) (v := .string t) rfl (by kernel_rfl) (by kernel_rfl) (by kernel_rfl) (fun _ _ _ h => h) (Or.inl ⟨by rfl, fun w hSw => ?_⟩) hHeld ?_
        · go_simp
        simp only [Act.put, List.setIfInBounds_toArray, List.set_cons_zero, List.set_cons_succ]
        refine wpAnyH_take (i := 8) (oi := { dst := some 46, op := Op.load 121 (Operand.tmp 8), type := 121, pos := "turn.go:50", after := #[], guard := none }) (v := .agg (lesL t).toArray) rfl (by kernel_rfl) (by kernel_rfl) (by kernel_rfl) (fun _ _ _ h => h) (yieldsIf_load_mid (by rfl) _ _ rfl N 0 rfl (lesL t) _ (fun w h => h) hu47 rfl hi47) hHeld ?_
        simp only [Act.put, List.setIfInBounds_toArray, List.set_cons_zero, List.set_cons_succ]
        refine wpAnyH_take (i := 9) (oi := { dst := some 47, op := Op.move (Operand.tmp 1), type := 9, pos := "turn.go:50", after := #[], guard := none }) (v := .string p) rfl (by kernel_rfl) (by kernel_rfl) (by kernel_rfl) (fun _ _ _ h => h) (Or.inl ⟨by rfl, fun w hSw => ?_⟩) hHeld ?_
        · go_simp
        simp only [Act.put, List.setIfInBounds_toArray, List.set_cons_zero, List.set_cons_succ]
        refine wpAnyH_take (i := 10) (oi := { dst := some 48, op := Op.move (Operand.tmp 11), type := 3, pos := "turn.go:50", after := #[], guard := none }) (v := .int .i64 (k1 : Int)) rfl (by kernel_rfl) (by kernel_rfl) (by kernel_rfl) (fun _ _ _ h => h) (Or.inl ⟨by rfl, fun w hSw => ?_⟩) hHeld ?_
        · go_simp
        simp only [Act.put, List.setIfInBounds_toArray, List.set_cons_zero, List.set_cons_succ]
        refine wpAnyH_take (i := 11) (oi := { dst := some 49, op := Op.index 9 (Operand.tmp 47) (Operand.tmp 48), type := 5, pos := "turn.go:50", after := #[{ on := 9, ground := Ground.data }, { on := 10, ground := Ground.data }], guard := none }) (v := .int .u8 (p[k1].toNat : Int)) rfl (by kernel_rfl) (by kernel_rfl) (by kernel_rfl) (fun _ _ _ h => h) (Or.inl ⟨by rfl, fun w hSw => ?_⟩) hHeld ?_
        · go_simp
        simp only [Act.put, List.setIfInBounds_toArray, List.set_cons_zero, List.set_cons_succ]
        refine wpAnyH_take (i := 12) (oi := { dst := some 50, op := Op.move (Operand.tmp 10), type := 3, pos := "turn.go:50", after := #[], guard := none }) (v := .int .i64 (hi : Int)) rfl (by kernel_rfl) (by kernel_rfl) (by kernel_rfl) (fun _ _ _ h => h) (Or.inl ⟨by rfl, fun w hSw => ?_⟩) hHeld ?_
        · go_simp
        simp only [Act.put, List.setIfInBounds_toArray, List.set_cons_zero, List.set_cons_succ]
        refine wpAnyH_ready (rs := [6]) (by kernel_rfl) (by simp) ?_
        refine AllReadyH.cons (o := { dst := some 44, op := Op.call { callee := Callee.value (Operand.func 96), args := #[Operand.tmp 38, Operand.tmp 39, Operand.tmp 42, Operand.tmp 43], argTypes := #[9, 121, 5, 3] }, type := 3, pos := "turn.go:50", after := #[{ on := 0, ground := Ground.data }, { on := 1, ground := Ground.data }, { on := 4, ground := Ground.data }, { on := 5, ground := Ground.data }], guard := none }) rfl (fun K hK => ?_) AllReadyH.nil
        go_simp
        with_reducible refine (HC1.out _).mono ?_
        rintro e w8 ⟨rfl, hb8⟩
        have hS8 : w8.rangeAt N 0 (lesL t) := range_keep2 hb8 hRG hNb
        have hN8 : N < w8.heap.size := Nat.lt_of_lt_of_le hNb hb8.size
        have HB8 := hid hb8
        clear hb8
        refine hK.out _ _ hS8 (fun hHeld => ?_)
        clear hK K
        refine wpAnyH_ready (rs := [13]) (by kernel_rfl) (by simp) ?_
        refine AllReadyH.cons (o := { dst := some 51, op := Op.call { callee := Callee.value (Operand.func 96), args := #[Operand.tmp 45, Operand.tmp 46, Operand.tmp 49, Operand.tmp 50], argTypes := #[9, 121, 5, 3] }, type := 3, pos := "turn.go:50", after := #[{ on := 7, ground := Ground.data }, { on := 8, ground := Ground.data }, { on := 11, ground := Ground.data }, { on := 12, ground := Ground.data }, { on := 6, ground := Ground.chain }], guard := none }) rfl (fun K hK => ?_) AllReadyH.nil
        go_simp
        with_reducible refine (HC2.out _).mono ?_
        rintro e w9 ⟨rfl, hb9⟩
        have hS9 : w9.rangeAt N 0 (lesL t) := range_keep2 hb9 hS8 hN8
        have HN9 := hid (show N < w9.heap.size from Nat.lt_of_lt_of_le hN8 hb9.size)
        have HB9 := hid hb9
        clear hb9
        refine hK.out _ _ hS9 (fun hHeld => ?_)
        clear hK K
        refine wpAnyH_take (i := 14) (oi := { dst := some 9, op := Op.assign (Operand.tmp 44), type := 3, pos := "turn.go:50", after := #[{ on := 6, ground := Ground.data }, { on := 13, ground := Ground.chain }, { on := 0, ground := Ground.phase }, { on := 1, ground := Ground.phase }, { on := 2, ground := Ground.phase }, { on := 3, ground := Ground.phase }, { on := 4, ground := Ground.phase }, { on := 5, ground := Ground.phase }, { on := 6, ground := Ground.phase }, { on := 7, ground := Ground.textOnly Departure.lateStores }, { on := 8, ground := Ground.textOnly Departure.lateStores }, { on := 9, ground := Ground.textOnly Departure.lateStores }, { on := 10, ground := Ground.textOnly Departure.lateStores }, { on := 11, ground := Ground.textOnly Departure.lateStores }, { on := 12, ground := Ground.textOnly Departure.lateStores }, { on := 13, ground := Ground.textOnly Departure.lateStoresUnsure }], guard := none }) (v := .int .i64 (lo2 : Int)) rfl (by kernel_rfl) (by kernel_rfl) (by kernel_rfl) (fun _ _ _ h => h) (Or.inl ⟨by rfl, fun w hSw => ?_⟩) hHeld ?_
        · go_simp
        simp only [Act.put, List.setIfInBounds_toArray, List.set_cons_zero, List.set_cons_succ]
        refine wpAnyH_take (i := 15) (oi := { dst := some 10, op := Op.assign (Operand.tmp 51), type := 3, pos := "turn.go:50", after := #[{ on := 13, ground := Ground.data }, { on := 14, ground := Ground.chain }, { on := 0, ground := Ground.phase }, { on := 1, ground := Ground.phase }, { on := 2, ground := Ground.phase }, { on := 3, ground := Ground.phase }, { on := 4, ground := Ground.phase }, { on := 5, ground := Ground.phase }, { on := 6, ground := Ground.phase }, { on := 7, ground := Ground.phase }, { on := 8, ground := Ground.phase }, { on := 9, ground := Ground.phase }, { on := 10, ground := Ground.phase }, { on := 11, ground := Ground.phase }, { on := 12, ground := Ground.phase }, { on := 13, ground := Ground.phase }, { on := 14, ground := Ground.phase }], guard := none }) (v := .int .i64 (hi2 : Int)) rfl (by kernel_rfl) (by kernel_rfl) (by kernel_rfl) (fun _ _ _ h => h) (Or.inl ⟨by rfl, fun w hSw => ?_⟩) hHeld ?_
        · go_simp
        simp only [Act.put, List.setIfInBounds_toArray, List.set_cons_zero, List.set_cons_succ]
        refine wpAnyH_done (by kernel_rfl) ?_ _
        go_wp2
        go_roundw
        case measure => simp [intOf]
        case rel =>
          have hk := HKK.out
          exact ⟨k1, lo2, hi2, (k1 : Int) - 1, by omega, rfl, rfl, rfl, rfl, hmono, hle, HA2, hid (bl_then (bl_then HB.out.drew HB8.out) HB9.out), hid ‹_›, HN9⟩
      · have hlo' : decide ((lo : Int) < (hi : Int)) = false := decide_eq_false (by omega)
        have HF := fin (.inr hlo)
        have eh : (hi : Int) - (lo : Int) = ((hi - lo : Nat) : Int) := by omega
        obtain ⟨r, hr⟩ : ∃ r, r = hi - lo := ⟨_, rfl⟩
        rw [← hr] at HF eh
        have hrb : r ≤ 200 := by omega
        clear fin HA HG HN hz hr
        go_wp2
        go_ret2
        exact ⟨by rw [← HF.out]; rfl, HB.out⟩
    · obtain rfl : k = 0 := by omega
      have hzd : decide ((0 : Int) ≤ z) = false := decide_eq_false (by omega)
      have HF := fin (.inl rfl)
      have eh : (hi : Int) - (lo : Int) = ((hi - lo : Nat) : Int) := by omega
      obtain ⟨r, hr⟩ : ∃ r, r = hi - lo := ⟨_, rfl⟩
      rw [← hr] at HF eh
      have hrb : r ≤ 200 := by omega
      clear fin HA HG HN hz hr
      go_wp2
      go_ret2
      exact ⟨by rw [← HF.out]; rfl, HB.out⟩
theorem Count_t_large (t p : ByteArray) (w : World) (hs : 200 < t.size) : Calls Try.prog 51 #[.string t, .string p] w fun e w' => e = .returned (.tuple #[.int .i64 0, .int .i64 2]) ∧ w = w' := by
  go_enter Try.func51, Try.ntmps51
  go_wp2_with fail
  with_reducible refine (check_large t _ hs).mono ?_
  rintro e w1 ⟨rfl, rfl⟩
  go_wp2
  go_ret2
  exact ⟨rfl, rfl⟩
theorem Count_p_large (t p : ByteArray) (w : World) (hs : t.size ≤ 200) (hp : 200 < p.size) : Calls Try.prog 51 #[.string t, .string p] w fun e w' => e = .returned (.tuple #[.int .i64 0, .int .i64 2]) ∧ w = w' := by
  go_enter Try.func51, Try.ntmps51
  go_wp2_with fail
  with_reducible refine (check_ok t _ hs).mono ?_
  rintro e w1 ⟨rfl, rfl⟩
  go_wp2_with fail
  with_reducible refine (check_large p _ hp).mono ?_
  rintro e w1 ⟨rfl, rfl⟩
  go_wp2
  go_ret2
  exact ⟨rfl, rfl⟩
end Go.Proofs.Ytapjodbaaejldaa


/-
Plain mathematics of the Burrows-Wheeler transform, more of it: all turns of a word have the same transform; searching from behind counts the places. No program is named here.
-/
namespace Go.Proofs.Ytapjodbaaejldaa
namespace Tm
open Lm Sm

/-- A turn of x, as a list. -/
def rt (x : List UInt8) (k : Nat) : List UInt8 := x.drop k ++ x.take k
theorem rt_len {x : List UInt8} {k : Nat} (h : k ≤ x.length) : (rt x k).length = x.length := by unfold rt; rw [List.length_append, List.length_drop, List.length_take]; omega
theorem rt_get {x : List UInt8} {k i : Nat} (hk : k ≤ x.length) (hi : i < x.length) : (rt x k).getD i 0 = x.getD ((k + i) % x.length) 0 := by
  unfold rt
  rw [List.getD_eq_getElem?_getD, List.getD_eq_getElem?_getD, List.getElem?_append]
  by_cases h : i < (x.drop k).length
  · rw [if_pos h, List.getElem?_drop]
    rw [List.length_drop] at h
    rw [Nat.mod_eq_of_lt (by omega)]
  · rw [if_neg h, List.getElem?_take]
    rw [List.length_drop] at *
    rw [if_pos (by omega)]
    have e : (k + i) % x.length = i - (x.length - k) := by
      rw [Nat.mod_eq_sub_mod (by omega), Nat.mod_eq_of_lt (by omega)]
      omega
    rw [e]
theorem rt_W {x : List UInt8} {k : Nat} (hk : k ≤ x.length) (hx : 0 < x.length) (i d : Nat) : W (rt x k) i d = W x (k + i) d := by
  unfold W
  rw [rt_len hk, rt_get hk (Nat.mod_lt _ hx), Nat.add_mod_mod, Nat.add_assoc]
theorem rt_cy {x : List UInt8} {k : Nat} (hk : k ≤ x.length) (hx : 0 < x.length) (i m : Nat) : cy (rt x k) i m = cy x ((k + i) % x.length) m := by
  unfold cy
  exact List.map_congr_left fun d _ => by rw [rt_W hk hx, W_mod]
theorem turn_bij (n k : Nat) : Bij n (fun i => (k + i) % n) := by
  refine ⟨fun i hi => Nat.mod_lt _ (by omega), fun i j hi hj h => ?_⟩
  have h : (k + i) % n = (k + j) % n := h
  have h1 : (k % n + i) % n = (k % n + j) % n := by rw [Nat.mod_add_mod, Nat.mod_add_mod]; exact h
  have h2 := Nat.mod_lt k (show 0 < n by omega)
  generalize k % n = r at h1 h2
  have e : ∀ i, i < n → (r + i) % n = if r + i < n then r + i else r + i - n := fun i hi => by
    by_cases h : r + i < n
    · rw [if_pos h, Nat.mod_eq_of_lt h]
    · rw [if_neg h, Nat.mod_eq_sub_mod (by omega), Nat.mod_eq_of_lt (by omega)]
  rw [e i hi, e j hj] at h1
  split at h1 <;> split at h1 <;> omega
/-- All turns of a word have the same last bytes. -/
theorem IsPut.turned {x t u : List UInt8} {a b k : Nat} (hk : k ≤ x.length) (h : IsPut x t a) (g : IsPut (rt x k) u b) : t = u := by
  have hl := rt_len hk
  obtain ⟨σ, h1, h2, _⟩ := h.all
  obtain ⟨τ, g1, g2, _⟩ := g.all
  refine List.ext_getElem (by rw [h.len, g.len, hl]) fun i i1 i2 => ?_
  have hi : i < x.length := by rw [← h.len]; exact i1
  have hx : 0 < x.length := by omega
  have e1 := h2 i hi
  have e2 := g2 i (by rw [hl]; exact hi)
  rw [List.getD_eq_getElem?_getD, List.getElem?_eq_getElem i1, Option.getD_some] at e1
  rw [List.getD_eq_getElem?_getD, List.getElem?_eq_getElem i2, Option.getD_some] at e2
  rw [e1, e2]
  have hb2 := g1.bij
  rw [hl] at hb2
  have hsame := same_rows (n := x.length) (T := fun j => cy x (σ j) x.length) (U := fun j => cy (rt x k) (τ j) x.length) (h1.rise x.length) (fun i j hij hj => g1.rise x.length i j hij (by rw [hl]; exact hj)) (fun P => by
    show cnt (fun j => P (cy x (σ j) x.length)) x.length = cnt (fun j => P (cy (rt x k) (τ j) x.length)) x.length
    rw [h1.bij.cnt (fun i => P (cy x i x.length)), hb2.cnt (fun i => P (cy (rt x k) i x.length)), ← (turn_bij x.length k).cnt (fun i => P (cy x i x.length))]
    exact cnt_congr fun j _ => by rw [rt_cy hk hx]) hi
  have := congrArg (fun l => l.getD (x.length - 1) 0) hsame
  simp only [cy_get x _ (show x.length - 1 < x.length by omega), cy_get (rt x k) _ (show x.length - 1 < x.length by omega)] at this
  rw [this, hl]
/-- The bytes of the transform are those of the word. -/
theorem IsPut.perm {x t : List UInt8} {a : Nat} (h : IsPut x t a) : t.Perm x := by
  obtain ⟨σ, h1, h2, _⟩ := h.all
  by_cases hx : x.length = 0
  · rw [List.eq_nil_of_length_eq_zero hx, List.eq_nil_of_length_eq_zero (h.len.trans hx)]
  · have e1 : t = ((List.range x.length).map σ).map (fun i => x.getD (pv x.length i) 0) := by
      refine List.ext_getElem (by simp [h.len]) fun i i1 i2 => ?_
      have hi : i < x.length := by rw [← h.len]; exact i1
      have e := h2 i hi
      rw [List.getD_eq_getElem?_getD, List.getElem?_eq_getElem i1, Option.getD_some] at e
      rw [e]
      simp
      rfl
    have e2 : x = (List.range x.length).map (fun i => x.getD i 0) := by
      refine List.ext_getElem (by simp) fun i i1 i2 => ?_
      simp [List.getD_eq_getElem?_getD, List.getElem?_eq_getElem i1]
    have h3 := (h1.bij.perm.map (fun i => x.getD (pv x.length i) 0))
    have h4 := ((pv_bij x.length).perm.map (fun i => x.getD i 0))
    rw [List.map_map] at h4
    rw [← e1] at h3
    rw [← e2] at h4
    exact h3.trans h4

/-- What holds up to some place only is told by its count. -/
theorem seg {P : Nat → Bool} : ∀ {n}, (∀ i j, i < j → j < n → P j = true → P i = true) → ∀ j, j < n → (j < cnt P n ↔ P j = true)
  | 0, _, j, hj => by omega
  | n + 1, h, j, hj => by
    have ih := seg (n := n) fun i j hij hj => h i j hij (by omega)
    have hc := cnt_le P n
    show j < cnt P n + (P n).toNat ↔ _
    cases hp : P n
    · rw [show false.toNat = 0 from rfl, Nat.add_zero]
      by_cases hjn : j = n
      · subst hjn
        simp [hp]
        omega
      · exact ih j (by omega)
    · have hall : ∀ i, i < n → P i = true := fun i hi => h i n hi (by omega) hp
      have : cnt P n = n := by
        have h1 := cnt_mono (n := n) (P := fun j => decide (j < n)) (Q := P) fun j hj _ => hall j hj
        rw [cnt_below] at h1
        omega
      rw [this, show true.toNat = 1 from rfl]
      by_cases hjn : j = n
      · subst hjn; simp [hp]
      · simp [hall j (by omega)]
        omega
def lowT (x : List UInt8) (σ : Nat → Nat) (q : List UInt8) : Nat := cnt (fun j => decide (cy x (σ j) q.length < q)) x.length
def highT (x : List UInt8) (σ : Nat → Nat) (q : List UInt8) : Nat := cnt (fun j => decide (¬ q < cy x (σ j) q.length)) x.length
theorem lowT_iff {x : List UInt8} {σ : Nat → Nat} (h : Bw x σ) (q : List UInt8) {j : Nat} (hj : j < x.length) : j < lowT x σ q ↔ cy x (σ j) q.length < q := by
  unfold lowT
  rw [seg (fun i j hij hj e => decide_eq_true (le_lt (h.rise q.length i j hij hj) (of_decide_eq_true e))) j hj, decide_eq_true_iff]
theorem highT_iff {x : List UInt8} {σ : Nat → Nat} (h : Bw x σ) (q : List UInt8) {j : Nat} (hj : j < x.length) : j < highT x σ q ↔ ¬ q < cy x (σ j) q.length := by
  unfold highT
  have hs : ∀ i j, i < j → j < x.length → (decide (¬ q < cy x (σ j) q.length)) = true → (decide (¬ q < cy x (σ i) q.length)) = true := fun i j hij hj e => by
    have e1 : ¬ q < cy x (σ j) q.length := of_decide_eq_true e
    exact decide_eq_true (fun hc => e1 (lt_le hc (h.rise q.length i j hij hj)))
  rw [seg (P := fun j => decide (¬ q < cy x (σ j) q.length)) hs j hj, decide_eq_true_iff]
theorem step_cnt {x : List UInt8} {σ : Nat → Nat} (h : Bw x σ) (hx : 0 < x.length) (P : List UInt8 → Bool) (m : Nat) :
    cnt (fun j => P (W x (σ j) (x.length - 1) :: cy x (σ j) m)) x.length = cnt (fun j => P (cy x (σ j) (m + 1))) x.length := by
  rw [h.bij.cnt (fun i => P (cy x i (m + 1))), ← (pv_bij x.length).cnt (fun i => P (cy x i (m + 1))), ← h.bij.cnt (fun i => P (cy x (pv x.length i) (m + 1)))]
  exact cnt_congr fun j _ => by rw [cy_prev hx]
theorem lowT_step {x t : List UInt8} {σ : Nat → Nat} (h : Bw x σ) (hl : t.length = x.length) (ht : ∀ k, k < x.length → t.getD k 0 = W x (σ k) (x.length - 1)) (hx : 0 < x.length) (c : UInt8) (q : List UInt8) :
    sp t c.toNat (lowT x σ q) = lowT x σ (c :: q) := by
  have hle : lowT x σ q ≤ t.length := by rw [hl]; exact cnt_le _ _
  rw [sp_as t _ _ hle, hl]
  unfold lowT
  rw [List.length_cons, ← step_cnt h hx (fun z => decide (z < c :: q))]
  refine cnt_congr fun j hj => decide_eq_decide.2 ?_
  have := lowT_iff h q hj
  unfold lowT at this
  rw [this, cons_lt, show bn t j = (W x (σ j) (x.length - 1)).toNat by unfold bn; rw [ht j hj], UInt8.lt_iff_toNat_lt, ← UInt8.toNat_inj]
theorem highT_step {x t : List UInt8} {σ : Nat → Nat} (h : Bw x σ) (hl : t.length = x.length) (ht : ∀ k, k < x.length → t.getD k 0 = W x (σ k) (x.length - 1)) (hx : 0 < x.length) (c : UInt8) (q : List UInt8) :
    sp t c.toNat (highT x σ q) = highT x σ (c :: q) := by
  have hle : highT x σ q ≤ t.length := by rw [hl]; exact cnt_le _ _
  rw [sp_as t _ _ hle, hl]
  unfold highT
  rw [List.length_cons, ← step_cnt h hx (fun z => decide (¬ c :: q < z))]
  refine cnt_congr fun j hj => decide_eq_decide.2 ?_
  have := highT_iff h q hj
  unfold highT at this
  rw [this, cons_lt, show bn t j = (W x (σ j) (x.length - 1)).toNat by unfold bn; rw [ht j hj], UInt8.lt_iff_toNat_lt, ← UInt8.toNat_inj]
  constructor
  · rintro (h1 | ⟨h1, h2⟩) (h3 | ⟨h3, h4⟩)
    · omega
    · omega
    · omega
    · exact h2 h4
  · intro h1
    by_cases h2 : (W x (σ j) (x.length - 1)).toNat < c.toNat
    · exact .inl h2
    · by_cases h3 : (W x (σ j) (x.length - 1)).toNat = c.toNat
      · exact .inr ⟨h3, fun h4 => h1 (.inr ⟨h3.symm, h4⟩)⟩
      · exact absurd (.inl (by omega)) h1
theorem zero_len {x : List UInt8} (p : List UInt8) (h : x.length = 0) (t : List UInt8) (ht : t.length = x.length) : csn t p = 0 := by
  have := cs_le t p p.length
  unfold csn
  omega
/-- How many places of the ring have q. -/
def occ (x q : List UInt8) : Nat := cnt (fun i => decide (cy x i q.length = q)) x.length
theorem occ_as {x : List UInt8} {σ : Nat → Nat} (h : Bw x σ) (q : List UInt8) : highT x σ q = lowT x σ q + occ x q := by
  unfold highT lowT occ
  rw [← h.bij.cnt (fun i => decide (cy x i q.length = q))]
  refine cnt_or (fun j _ hc => ?_) (fun j _ => ?_)
  · have h1 := of_decide_eq_true hc.1
    rw [of_decide_eq_true hc.2] at h1
    exact irr _ h1
  · rw [← Bool.decide_or]
    refine decide_eq_decide.2 ⟨fun h1 => ?_, ?_⟩
    · by_cases h2 : cy x (σ j) q.length < q
      · exact .inl h2
      · exact .inr (tri h2 h1)
    · rintro (h1 | h1)
      · exact Sm.as_ h1
      · rw [h1]; exact irr _
theorem cnt_zero {P : Nat → Bool} {n : Nat} (h : cnt P n = 0) (j : Nat) (hj : j < n) : P j = false := by
  induction n with
  | zero => omega
  | succ n ih =>
    have h : cnt P n + (P n).toNat = 0 := h
    by_cases hjn : j = n
    · subst hjn
      cases hp : P j
      · rfl
      · rw [hp] at h; simp at h
    · exact ih (by omega) (by omega)
theorem occ_zero {x q : List UInt8} (hx : 0 < x.length) (c : UInt8) (h : occ x q = 0) : occ x (c :: q) = 0 := by
  have hz := cnt_zero h
  have : cnt (fun i => decide (cy x i (c :: q).length = c :: q)) x.length ≤ cnt (fun i => decide (i < 0)) x.length := cnt_mono fun i hi e => by
    have e := of_decide_eq_true e
    rw [List.length_cons, cy_succ] at e
    have e2 := (List.cons.inj e).2
    have := of_decide_eq_false (hz ((i + 1) % x.length) (Nat.mod_lt _ hx))
    refine absurd ?_ this
    rw [← e2]
    rw [cy_len]
    unfold cy
    exact List.map_congr_left fun d _ => W_mod _ _ _
  rw [cnt_below] at this
  unfold occ
  omega
theorem drop_cons {p : List UInt8} {d : Nat} (h : d < p.length) : p.drop (p.length - (d + 1)) = p.getD (p.length - 1 - d) 0 :: p.drop (p.length - d) := by
  rw [List.drop_eq_getElem_cons (by omega), List.getD_eq_getElem?_getD, List.getElem?_eq_getElem (by omega), Option.getD_some]
  congr 1
  · congr 1; omega
  · congr 1; omega
theorem cs_is {x t p : List UInt8} {σ : Nat → Nat} (h : Bw x σ) (hl : t.length = x.length) (ht : ∀ k, k < x.length → t.getD k 0 = W x (σ k) (x.length - 1)) (hx : 0 < x.length) :
    ∀ d, d ≤ p.length → (cs t p d = (lowT x σ (p.drop (p.length - d)), highT x σ (p.drop (p.length - d)))) ∨ ((cs t p d).1 = (cs t p d).2 ∧ occ x (p.drop (p.length - d)) = 0)
  | 0, _ => by
    refine .inl ?_
    rw [Nat.sub_zero, List.drop_length]
    show (0, t.length) = _
    have h1 : lowT x σ [] = 0 := by
      have := cnt_mono (n := x.length) (P := fun j => decide (cy x (σ j) ([] : List UInt8).length < [])) (Q := fun i => decide (i < 0)) fun j _ e => absurd (of_decide_eq_true e) (List.not_lt_nil _)
      rw [cnt_below] at this
      unfold lowT
      omega
    have h2 : highT x σ [] = x.length := by
      have := cnt_mono (n := x.length) (P := fun i => decide (i < x.length)) (Q := fun j => decide (¬ ([] : List UInt8) < cy x (σ j) ([] : List UInt8).length)) fun j _ e => by
        refine decide_eq_true ?_
        rw [show cy x (σ j) ([] : List UInt8).length = [] from rfl]
        exact irr _
      rw [cnt_below] at this
      have h3 := cnt_le (fun j => decide (¬ ([] : List UInt8) < cy x (σ j) ([] : List UInt8).length)) x.length
      unfold highT
      omega
    rw [h1, h2, hl]
  | d + 1, hd => by
    have ih := cs_is (p := p) h hl ht hx d (by omega)
    rw [drop_cons (by omega)]
    have hcs : cs t p (d + 1) = if (cs t p d).1 < (cs t p d).2 then (sp t (Lm.bn p (p.length - 1 - d)) (cs t p d).1, sp t (Lm.bn p (p.length - 1 - d)) (cs t p d).2) else cs t p d := rfl
    have hle := (cs_le t p d).1
    rcases ih with ih | ⟨ih1, ih2⟩
    · by_cases hlt : (cs t p d).1 < (cs t p d).2
      · refine .inl ?_
        rw [hcs, if_pos hlt, ih]
        show (sp t (p.getD (p.length - 1 - d) 0).toNat _, sp t (p.getD (p.length - 1 - d) 0).toNat _) = _
        rw [lowT_step h hl ht hx, highT_step h hl ht hx]
      · refine .inr ?_
        rw [hcs, if_neg hlt]
        refine ⟨by omega, occ_zero hx _ ?_⟩
        have := occ_as h (p.drop (p.length - d))
        rw [ih] at hlt
        have hlt : ¬ lowT x σ (p.drop (p.length - d)) < highT x σ (p.drop (p.length - d)) := hlt
        omega
    · refine .inr ?_
      rw [hcs, if_neg (by omega)]
      exact ⟨ih1, occ_zero hx _ ih2⟩
/-- FERRAGINA, MANZINI: the search from behind counts the places of the ring. -/
theorem IsPut.count {x t : List UInt8} {a : Nat} (h : IsPut x t a) (p : List UInt8) : csn t p = occ x p := by
  obtain ⟨σ, h1, h2, _⟩ := h.all
  by_cases hx : x.length = 0
  · rw [zero_len p hx t h.len]
    unfold occ
    rw [hx]
    rfl
  · have hx : 0 < x.length := by omega
    unfold csn
    rcases cs_is (p := p) h1 h.len h2 hx p.length (Nat.le_refl _) with e | ⟨e1, e2⟩
    · rw [e, Nat.sub_self, List.drop_zero]
      have := occ_as h1 p
      show highT x σ p - lowT x σ p = _
      omega
    · rw [Nat.sub_self, List.drop_zero] at e2
      omega
end Tm
end Go.Proofs.Ytapjodbaaejldaa


/-
What turn.Get may answer, and quillkeep.turns: the example.
-/
namespace Go.Proofs.Ytapjodbaaejldaa
open Go.RowKit

def banS : ByteArray := ⟨#[98, 97, 110, 97, 110, 97]⟩
def nnbS : ByteArray := ⟨#[110, 110, 98, 97, 97, 97]⟩
instance (x : List UInt8) (i j : Nat) : Decidable (Tm.R x i j) := inferInstanceAs (Decidable (_ ∨ _))
def banσ (k : Nat) : Nat := [5, 3, 1, 0, 4, 2].getD k 0
theorem ban_put : Tm.IsPut (lst banS) (lst nnbS) 3 := by
  refine ⟨rfl, ⟨banσ, ⟨⟨?_, ?_⟩, ?_⟩, ?_, fun _ => ⟨by decide, by decide⟩⟩, fun h => absurd h (by decide)⟩
  · have h : ∀ k, k < 6 → banσ k < 6 := by decide +kernel
    exact h
  · have h : ∀ i, i < 6 → ∀ j, j < 6 → banσ i = banσ j → i = j := by decide +kernel
    exact fun i j hi hj => h i hi j hj
  · have h : ∀ j, j < 6 → ∀ i, i < j → Tm.R (lst banS) (banσ i) (banσ j) := by decide +kernel
    exact fun i j hij hj => h j hj i hij
  · have h : ∀ k, k < 6 → (lst nnbS).getD k 0 = Tm.W (lst banS) (banσ k) 5 := by decide +kernel
    exact h
theorem ban_back : gtS nnbS 3 = banS := lst_inj (by rw [gtS_lst, ban_put.back])
/-- What turn.Get answers: an error and nothing, or the word of which t and at are the transform. -/
def GetOut (t : ByteArray) (at_ : Int) (w : World) (e : Ending) (w' : World) : Prop :=
  ((∃ c : Int, (c == 0) = false ∧ (c != 0) = true ∧ e = .returned (.tuple #[.string ByteArray.empty, .int .i64 c])) ∨
    ∃ (S : ByteArray) (n : Nat), at_ = (n : Int) ∧ S.size ≤ 200 ∧ Tm.IsPut (lst S) (lst t) n ∧ e = .returned (.tuple #[.string S, .int .i64 0])) ∧ Below w.heap.size w w'
theorem Get_out (t : ByteArray) (at_ : Int) (w : World) : Calls Try.prog 41 #[.string t, .int .i64 at_] w (GetOut t at_ w) := by
  by_cases hs : t.size ≤ 200
  · by_cases ha : at_ < 0 ∨ ((max t.size 1 : Nat) : Int) ≤ at_
    · refine (Get_arg t at_ w hs ha).mono ?_
      rintro e w1 ⟨rfl, rfl⟩
      exact ⟨.inl ⟨1, by decide, by decide, rfl⟩, Below.refl _ _⟩
    · obtain ⟨n, rfl⟩ : ∃ n : Nat, at_ = (n : Int) := ⟨at_.toNat, by omega⟩
      refine (Get_fit t n w hs (by omega)).mono ?_
      rintro e w1 ⟨⟨hp, rfl⟩ | ⟨hp, rfl⟩, hb⟩
      · exact ⟨.inr ⟨gtS t n, n, rfl, by rw [gtS_size]; exact hs, by rw [gtS_lst]; exact hp, rfl⟩, hb⟩
      · exact ⟨.inl ⟨3, by decide, by decide, rfl⟩, hb⟩
  · refine (Get_large t at_ w (by omega)).mono ?_
    rintro e w1 ⟨rfl, rfl⟩
    exact ⟨.inl ⟨2, by decide, by decide, rfl⟩, Below.refl _ _⟩
theorem Get_ban (w : World) : Calls Try.prog 41 #[.string ⟨#[110, 110, 98, 97, 97, 97]⟩, .int .i64 3] w fun e w' => e = .returned (.tuple #[.string ⟨#[98, 97, 110, 97, 110, 97]⟩, .int .i64 0]) ∧ Below w.heap.size w w' := by
  refine (Get_fit nnbS 3 w (by decide) (by decide)).mono ?_
  rintro e w1 ⟨⟨hp, rfl⟩ | ⟨hp, rfl⟩, hb⟩
  · rw [ban_back]; exact ⟨rfl, hb⟩
  · exact absurd (by rw [ban_put.back]; exact ban_put) hp
theorem Put_ban (w : World) : Calls Try.prog 32 #[.string ⟨#[98, 97, 110, 97, 110, 97]⟩] w fun e w' => e = .returned (.tuple #[.string ⟨#[110, 110, 98, 97, 97, 97]⟩, .int .i64 3, .int .i64 0]) ∧ Below w.heap.size w w' := by
  refine (Put_ok banS w (by decide)).mono ?_
  rintro e w1 ⟨t, a, rfl, hp, hb⟩
  obtain ⟨h1, rfl⟩ := hp.unique ban_put
  obtain rfl : t = nnbS := lst_inj h1
  exact ⟨rfl, hb⟩
end Go.Proofs.Ytapjodbaaejldaa

