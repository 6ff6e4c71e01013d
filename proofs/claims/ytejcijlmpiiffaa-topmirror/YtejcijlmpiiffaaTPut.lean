
/-
The contracts of turn.put and turn.Put.
-/
import Derived.Test.YtejcijlmpiiffaaTOrder
import Derived.Test.YtejcijlmpiiffaaWordB
import Derived.Test.YtejcijlmpiiffaaBack
namespace Go.Proofs.Ytejcijlmpiiffaa
open Go.RowKit

/-- The string of the bytes g 0, .., g (n - 1). -/
def strN (n : Nat) (g : Nat → UInt8) : ByteArray := strOfNums ((List.range n).map fun k => ((g k).toNat : Int))
theorem strN_size (n : Nat) (g : Nat → UInt8) : (strN n g).size = n := by unfold strN; rw [strOfNums_size]; simp
theorem strN_lst (n : Nat) (g : Nat → UInt8) : lst (strN n g) = (List.range n).map g := by
  unfold strN lst
  rw [strOfNums_data, List.map_map]
  refine List.map_congr_left fun k _ => ?_
  simp
theorem fill_storeB {w wr : World} {g : Nat → Int} {b B n i : Nat} {t : TypeId} {v : Int} (hrow : wr.rowIs b t n (fun j => .int .u8 (fillG g i j))) (hbel : Below B w wr) (hB : B ≤ b) (hv : v = g i) :
    ∀ d, ((wr.drewN d).setCell ⟨b, i, none⟩ (.int .u8 v)).rowIs b t n (fun j => .int .u8 (fillG g (i + 1) j)) ∧ Below B w ((wr.drewN d).setCell ⟨b, i, none⟩ (.int .u8 v)) := by
  intro d
  refine ⟨(World.rowIs.set (w := wr.drewN d) hrow i _).congr fun j _ => ?_, (bl_drewN hbel d).setCell hB _⟩
  rw [fillG_succ]
  by_cases h : j = i
  · rw [if_pos h, if_pos h, hv]
  · rw [if_neg h, if_neg h]
theorem Try.infoU8 : (Try.prog.info? 5).map (fun i => (i.zero, i.size, i.bytes)) = some (some (.int .u8 0), 1, 1) := by kernel_rfl
theorem conv_row {w : World} {b n : Nat} {g : Nat → UInt8} (h : w.rowIs b 5 n (fun j => .int .u8 (fillG (fun k => ((g k).toNat : Int)) n j))) :
    ∀ i, i < n → w.cell? ⟨b, 0 + i, none⟩ = some (.int .u8 (((List.range n).map fun k => ((g k).toNat : Int)).getD i 0)) := by
  intro i hi
  rw [Nat.zero_add, h.cell hi, fillG_lt hi, List.getD_eq_getElem?_getD, List.getElem?_map, List.getElem?_range hi]
  rfl
/-- What turn.put hands back. -/
def PutRet (s : ByteArray) (w : World) (e : Ending) (w' : World) : Prop :=
  ∃ (t : ByteArray) (a : Nat), e = .returned (.tuple #[.string t, .int .i64 (a : Int)]) ∧ Tm.IsPut (lst s) (lst t) a ∧ Below w.heap.size w w'
theorem rowIs_same {w w' : World} {b n : Nat} {t : TypeId} {f : Nat → Value} (h : w.rowIs b t n f) (hb : w'.heap[b]? = w.heap[b]?) : w'.rowIs b t n f := by
  obtain ⟨c, h1, h2, h3⟩ := h
  exact ⟨c, hb.trans h1, h2, h3⟩
/-- The last byte of the turn from place i. -/
theorem last_byte (s : ByteArray) {i : Nat} (hi : i < s.size) : Tm.W (lst s) i (s.size - 1) = byt s (if i = 0 then s.size - 1 else i - 1) := by
  unfold Tm.W
  rw [lst_len, lst_get]
  by_cases h : i = 0
  · rw [if_pos h, h, Nat.zero_add, Nat.mod_eq_of_lt (by omega)]
  · rw [if_neg h, show i + (s.size - 1) = i - 1 + s.size by omega, Nat.add_mod_right, Nat.mod_eq_of_lt (by omega)]
theorem isput_of (s : ByteArray) {σ : Nat → Nat} {a : Nat} (h : Tm.Bw (lst s) σ) (h1 : ∀ j, j < s.size → σ j = 0 → a = j) (h2 : a = 0 ∨ (a < s.size ∧ σ a = 0)) :
    Tm.IsPut (lst s) (lst (strN s.size fun k => Tm.W (lst s) (σ k) (s.size - 1))) a := by
  rw [strN_lst]
  refine ⟨by rw [lst_len]; simp, ⟨σ, h, fun k hk => ?_, fun hp => ?_⟩, fun hz => ?_⟩
  · rw [lst_len] at hk ⊢
    rw [List.getD_eq_getElem?_getD, List.getElem?_map, List.getElem?_range hk]
    rfl
  · obtain ⟨k, hk, e⟩ := h.bij.onto hp
    rw [lst_len] at hk ⊢
    obtain rfl := h1 k hk e
    exact ⟨hk, e⟩
  · rw [lst_len] at hz
    omega
set_option maxHeartbeats 1000000 in
theorem put_any (s : ByteArray) (w : World) (hs : s.size ≤ 200) : Calls Try.prog 48 #[.string s] w (PutRet s w) := by
  have HMK := hid (fun W => run_make_row' (P := Try.prog) 41 5 (.int .u8 0) 1 Try.underlying41 Try.infoU8 rfl .i64 .i64 s.size (by omega) (by omega) W)
  go_enter Try.func48, Try.ntmps48
  go_wp2_with fail
  with_reducible refine (order_any s _ hs).mono ?_
  rintro e w1 ⟨rfl, ⟨σ, hσ, hrow⟩, hb1⟩
  have hmk := HMK.out w1
  have hmade := World.rowIs_made w1 (.int .u8 0) s.size 5
  have hb0 := bl_then hb1 (bl_new w1 (.cells (madeCells #[.int .u8 0] s.size) 5))
  have hpl := rowIs_same hrow ((bl_new w1 (.cells (madeCells #[.int .u8 0] s.size) 5)).block _ hrow.lt)
  have hlt0 : w.heap.size + 1 < w1.heap.size := hrow.lt
  obtain ⟨bp, hbp⟩ : ∃ bp, bp = w.heap.size + 1 := ⟨_, rfl⟩
  obtain ⟨bl, hbl⟩ : ∃ bl, bl = w1.heap.size := ⟨_, rfl⟩
  rw [← hbp] at hpl hlt0 ⊢
  rw [← hbl] at hmade hmk hlt0
  generalize w1.alloc (.cells (madeCells #[.int .u8 0] s.size) 5) = w2 at hmk hmade hb0 hpl
  have R0 : Hid (w2.rowIs bl 5 s.size (fun j => .int .u8 (fillG (fun k => ((Tm.W (lst s) (σ k) (s.size - 1)).toNat : Int)) 0 j))) := hmade.congr fun j _ => by
    unfold fillG
    rw [if_neg (by omega)]
  have HP := hid hpl
  have HB0 := hid hb0
  have HW := hid hσ
  have hbw : w.heap.size ≤ bl := by omega
  clear hσ hrow HMK hb1 hmade hb0 hpl hbp hbl
  go_wp2
  go_loopw [16, 6] (fun x y wr => ∃ i a : Nat, i ≤ s.size ∧ x = .int .i64 i ∧ y = .int .i64 a ∧ Hid (wr.rowIs bl 5 s.size (fun j => .int .u8 (fillG (fun k => ((Tm.W (lst s) (σ k) (s.size - 1)).toNat : Int)) i j))) ∧ Hid (wr.rowIs bp 3 s.size (fun k => .int .i64 (σ k : Int))) ∧ Hid (Below w.heap.size w wr) ∧ Hid (∀ j, j < i → σ j = 0 → a = j) ∧ Hid (a = 0 ∨ (a < s.size ∧ σ a = 0))) (fun x _ _ => s.size - (intOf x).toNat)
  case atStart => exact ⟨0, 0, by omega, rfl, rfl, R0, HP, HB0, hid (fun j hj => by omega), hid (.inl rfl)⟩
  case round =>
    clear R0 HP HB0 hmk
    obtain ⟨i, a, hi, rfl, rfl, HF, HP, HB, HA1, HA2⟩ := hrel
    by_cases hlt : i < s.size
    · have hlt' : (i : Int) < (s.size : Int) := by omega
      have hroom := HF.out.frozen i
      have hci := HF.out.cell hlt
      have hcp := HP.out.cell hlt
      have hσi : σ i < s.size := by have := HW.out.bij.lt i (by rw [lst_len]; exact hlt); rw [lst_len] at this; exact this
      have hlb := last_byte s hσi
      have HP2 : Hid (∀ v : Value, (wr.setCell ⟨bl, i, none⟩ v).rowIs bp 3 s.size (fun k => .int .i64 (σ k : Int))) := fun v => rowIs_same HP.out (Below.heap_setCell wr ⟨bl, i, none⟩ v bp (by show bp ≠ bl; omega))
      have HFS := hid (fun v hv => fill_storeB (v := v) HF.out HB.out hbw hv 0)
      have hs1 : (s.size : Int) - 1 = ((s.size - 1 : Nat) : Int) := by omega
      obtain ⟨n1, hn1⟩ : ∃ n1, n1 = s.size - 1 := ⟨_, rfl⟩
      rw [← hn1] at hs1 hlb
      have hn1s : (n1 : Int) < (s.size : Int) := by omega
      have hn1t : n1 < s.size := by omega
      by_cases h0 : σ i = 0
      · rw [h0, if_pos rfl, ← h0] at hlb
        have HV := (HFS.out (s[n1].toNat : Int) (by show _ = ((Tm.W (lst s) (σ i) (s.size - 1)).toNat : Int); rw [← hn1, hlb, byt_eq hn1t]))
        rw [h0] at hcp
        have HV2 := hid HV
        have H0 := hid h0
        clear HF HP HB HFS HV hlb hn1 h0
        go_wp2
        go_roundw
        case measure => simp [intOf]; omega
        case rel =>
          refine ⟨i + 1, i, by omega, by go_num, rfl, hid HV2.out.1, hid (HP2.out _), hid HV2.out.2, hid (fun j hj h => ?_), hid (.inr ⟨hlt, H0.out⟩)⟩
          refine HW.out.bij.inj i j (by rw [lst_len]; exact hlt) (by rw [lst_len]; omega) (by rw [h, H0.out])
      · rw [if_neg h0] at hlb
        obtain ⟨f, hf⟩ : ∃ f, σ i = f + 1 := ⟨σ i - 1, by omega⟩
        have hfs : f < s.size := by omega
        have hfs' : (f : Int) < (s.size : Int) := by omega
        rw [hf, Nat.add_sub_cancel, ← hf] at hlb
        have HV := (HFS.out (s[f].toNat : Int) (by show _ = ((Tm.W (lst s) (σ i) (s.size - 1)).toNat : Int); rw [← hn1, hlb, byt_eq hfs]))
        obtain ⟨q, hq⟩ : ∃ q, q = σ i := ⟨_, rfl⟩
        rw [← hq] at hcp
        have hq0 : ((q : Int) == 0) = false := beq_eq_false_iff_ne.2 (by omega)
        have eq1 : (q : Int) - 1 = (f : Int) := by omega
        have hwf : IntKind.i64.wrap (f : Int) = (f : Int) := IntWalk.i64_in _ (by omega)
        have HV2 := hid HV
        have H0 := hid h0
        have hqb : q ≤ 200 := by omega
        clear HF HP HB HFS HV hlb hn1 h0 hf hq
        go_wp2
        go_roundw
        case measure => simp [intOf]; omega
        case rel =>
          refine ⟨i + 1, a, by omega, by go_num, rfl, hid HV2.out.1, hid (HP2.out _), hid HV2.out.2, hid (fun j hj h => ?_), HA2⟩
          by_cases hji : j = i
          · rw [hji] at h; exact absurd h H0.out
          · exact HA1.out j (by omega) h
    · obtain rfl : i = s.size := by omega
      have hlt' : decide ((s.size : Int) < (s.size : Int)) = false := decide_eq_false (by omega)
      have hcv := run_convert_bytes_arg (P := Try.prog) wr 41 5 Try.underlying41 Try.underlying5 bl 0 s.size s.size _ (by simp) (conv_row HF.out) 9 Try.underlying9
      have HI := hid (isput_of s HW.out HA1.out HA2.out)
      rw [show strOfNums ((List.range s.size).map fun k => ((Tm.W (lst s) (σ k) (s.size - 1)).toNat : Int)) = strN s.size (fun k => Tm.W (lst s) (σ k) (s.size - 1)) from rfl] at hcv
      generalize strN s.size (fun k => Tm.W (lst s) (σ k) (s.size - 1)) = t at hcv HI
      clear HF HP HA1 HA2
      go_wp2
      go_ret2
      exact ⟨t, a, rfl, HI.out, HB.out⟩
/-- What turn.Put hands back where there is no error. -/
def PutOk (s : ByteArray) (w : World) (e : Ending) (w' : World) : Prop :=
  ∃ (t : ByteArray) (a : Nat), e = .returned (.tuple #[.string t, .int .i64 (a : Int), .int .i64 0]) ∧ Tm.IsPut (lst s) (lst t) a ∧ Below w.heap.size w w'
theorem Put_ok (s : ByteArray) (w : World) (hs : s.size ≤ 200) : Calls Try.prog 40 #[.string s] w (PutOk s w) := by
  go_enter Try.func40, Try.ntmps40
  go_wp2_with fail
  with_reducible refine (check_ok s _ hs).mono ?_
  rintro e w1 ⟨rfl, rfl⟩
  go_wp2_with fail
  with_reducible refine (put_any s _ hs).mono ?_
  rintro e w1 ⟨t, a, rfl, hp, hb⟩
  have HP := hid hp
  clear hp
  go_wp2
  go_ret3
  exact ⟨t, a, rfl, HP.out, hb⟩
theorem Put_large (s : ByteArray) (w : World) (hs : 200 < s.size) :
    Calls Try.prog 40 #[.string s] w fun e w' => e = .returned (.tuple #[.string ByteArray.empty, .int .i64 0, .int .i64 2]) ∧ w = w' := by
  go_enter Try.func40, Try.ntmps40
  go_wp2_with fail
  with_reducible refine (check_large s _ hs).mono ?_
  rintro e w1 ⟨rfl, rfl⟩
  go_wp2
  go_ret3
  exact ⟨rfl, rfl⟩
end Go.Proofs.Ytejcijlmpiiffaa
