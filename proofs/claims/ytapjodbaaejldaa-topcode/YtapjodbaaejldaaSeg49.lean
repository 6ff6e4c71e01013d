/-
Several texts of this proof, one behind the other.
-/
import Derived.Test.YtapjodbaaejldaaSeg29
import Derived.Test.YtapjodbaaejldaaSortW
import Derived.Test.YtapjodbaaejldaaShelfK
import Derived.Laws.Cover1
import Derived.Test.YtapjodbaaejldaaRefLens
import Derived.Laws.BytesArg
import Derived.Laws.IdiomStrings
import Derived.Lib.RabinKarpLaws
import Derived.Test.YtapjodbaaejldaaSeg46

/-
The contract of slices.ContainsFunc with the test of quillref.CodesOf: is there a word that is not less, or begins the new one?
-/
namespace Go.Proofs.Ytapjodbaaejldaa
open Go.RowKit

theorem badPre {s p : List UInt8} : Lib.hasPrefix s p = true ↔ p <+: s := by unfold Lib.hasPrefix; exact List.isPrefixOf_iff_prefix
end Go.Proofs.Ytapjodbaaejldaa


/-
The contract of quillref.CodesOf.
-/
namespace Go.Proofs.Ytapjodbaaejldaa
open Go.RowKit

theorem bits_get : ∀ {n t : Nat} (x : Nat), t < n → (Cm.bits n x).take (t + 1) = (Cm.bits n x).take t ++ [if x / 2 ^ (n - 1 - t) % 2 = 1 then 49 else 48]
  | 0, t, x, h => by omega
  | n + 1, 0, x, _ => by unfold Cm.bits; simp
  | n + 1, t + 1, x, h => by
    have ih := bits_get (n := n) (t := t) x (by omega)
    unfold Cm.bits
    rw [List.take_succ_cons, List.take_succ_cons, ih, List.cons_append, show n + 1 - 1 - (t + 1) = n - 1 - t by omega]
theorem bits_all (n x : Nat) : (Cm.bits n x).take n = Cm.bits n x := List.take_of_length_le (by rw [Cm.bits_len]; omega)
/-- One byte more at a string. -/
theorem mk_app (l : List UInt8) (b : UInt8) : mkS l ++ (⟨#[b]⟩ : ByteArray) = mkS (l ++ [b]) := by
  have h : wd (mkS l ++ (⟨#[b]⟩ : ByteArray)) = wd (mkS (l ++ [b])) := by
    rw [wd_app]
    show lst (mkS l) ++ [b] = lst (mkS (l ++ [b]))
    rw [lst_mk, lst_mk]
  exact wd_inj h
theorem bit_str (v : Nat) (h : v < 2) : strOfNums [48 + (v : Int)] = ⟨#[if v = 1 then 49 else 48]⟩ := by
  rcases (show v = 0 ∨ v = 1 by omega) with rfl | rfl <;> rfl
theorem one_byte' (w : World) (x : Int) (t : TypeId) : ∀ i, i < 1 → ((w.alloc (.cells #[.int .u8 x] t)).drew).cell? ⟨w.heap.size, 0 + i, none⟩ = some (.int .u8 ([x].getD i 0)) := by
  intro i hi
  obtain rfl : i = 0 := by omega
  show (w.alloc (.cells #[.int .u8 x] t)).cell? ⟨w.heap.size, 0, none⟩ = some (.int .u8 x)
  simp
/-- What 'out' holds at place j when the words before place i of length n are made. -/
def outF (l : Nat → Nat) (N n i j : Nat) : List UInt8 := if l j < n ∨ (l j = n ∧ j < i) then Cm.cw l N j else []
theorem OwnL.below {w w' : World} {base : Nat} {v : Value} {L : List (List UInt8)} (h : OwnL w base v L) (hb : Below w.heap.size w w') : OwnL w' base v L := own_of_block h (fun k hk => hb.block k (World.ownsRow.lt h k hk).2)
/-- The memory of CodesOf. -/
def CanW (w wr : World) (l : Nat → Nat) (N n i : Nat) (v : Value) : Prop :=
  ∃ all, OwnL wr (w.heap.size + 1) v all ∧ all.length ≤ 12 * n + i ∧ Cm.Til all n (Cm.cp l N n i) ∧ Cm.cp l N n i ≤ 4096 ∧ wr.rowIs w.heap.size 9 N (fun j => .string (mkS (outF l N n i j))) ∧ Below w.heap.size w wr ∧ w.heap.size + 1 ≤ wr.heap.size
theorem CanW.keep {w wr w' : World} {l : Nat → Nat} {N n i : Nat} {v : Value} (h : CanW w wr l N n i v) (hb : Below wr.heap.size wr w') : CanW w w' l N n i v := by
  obtain ⟨all, h1, h2, h3, h4, h5, h6, h7⟩ := h
  exact ⟨all, h1.below hb, h2, h3, h4, h5.of_block (hb.block _ h5.lt), bl_then h6 hb, Nat.le_trans h7 hb.size⟩
theorem outF_next {l : Nat → Nat} {N n j : Nat} (hj : j < N) : outF l N n N j = outF l N (n + 1) 0 j := by
  unfold outF
  by_cases h : l j < n ∨ (l j = n ∧ j < N)
  · rw [if_pos h, if_pos (by omega)]
  · rw [if_neg h, if_neg (by omega)]
theorem CanW.next {w wr : World} {l : Nat → Nat} {N n : Nat} {v : Value} (h : CanW w wr l N n N v) (hN : N ≤ 12) : CanW w wr l N (n + 1) 0 v := by
  obtain ⟨all, h1, h2, h3, h4, h5, h6, h7⟩ := h
  rw [Cm.cp_next] at h3 h4
  exact ⟨all, h1, by omega, h3.more (by omega), h4, h5.congr fun j hj => by rw [outF_next hj], h6, h7⟩
theorem CanW.pass {w wr : World} {l : Nat → Nat} {N n i : Nat} {v : Value} (h : CanW w wr l N n i v) (hi : l i ≠ n) : CanW w wr l N n (i + 1) v := by
  obtain ⟨all, h1, h2, h3, h4, h5, h6, h7⟩ := h
  have e : Cm.cp l N n (i + 1) = Cm.cp l N n i := Cm.cp_no hi
  refine ⟨all, h1, by omega, by rw [e]; exact h3, by rw [e]; exact h4, h5.congr fun j hj => ?_, h6, h7⟩
  unfold outF
  by_cases hx : l j < n ∨ (l j = n ∧ j < i)
  · rw [if_pos hx, if_pos (by omega)]
  · rw [if_neg hx, if_neg (fun hy => hx (by
      rcases hy with hy | ⟨hy1, hy2⟩
      · exact .inl hy
      · by_cases hji : j = i
        · subst hji; exact absurd hy1 hi
        · exact .inr ⟨hy1, by omega⟩))]
/-- One word is made and taken. -/
theorem CanW.add {w wr : World} {l : Nat → Nat} {N n i X : Nat} {v : Value} {all : List (List UInt8)} (hown : OwnL wr (w.heap.size + 1) v (all ++ [Cm.bits n X])) (h2 : all.length ≤ 12 * n + i) (h3 : Cm.Til all n (Cm.cp l N n i)) (hX : X * 2 ^ (12 - n) = Cm.cp l N n i) (hXn : X < 2 ^ n) (hn : n ≤ 12) (hl : l i = n)
    (h5 : wr.rowIs w.heap.size 9 N (fun j => if j = i then .string (mkS (Cm.bits n X)) else .string (mkS (outF l N n i j)))) (h6 : Below w.heap.size w wr) (h7 : w.heap.size + 1 ≤ wr.heap.size) : CanW w wr l N n (i + 1) v := by
  have e : Cm.cp l N n (i + 1) = Cm.cp l N n i + 2 ^ (12 - n) := Cm.cp_yes hl
  refine ⟨_, hown, ?_, ?_, ?_, h5.congr fun j _ => ?_, h6, h7⟩
  · rw [List.length_append, List.length_singleton]; omega
  · rw [e]; exact h3.add hXn hX
  · have h8 := Nat.mul_le_mul_right (2 ^ (12 - n)) (show X + 1 ≤ 2 ^ n from hXn)
    rw [Cm.pow12 hn, Nat.add_mul, hX, Nat.one_mul] at h8
    rw [e]; exact h8
  · unfold outF
    by_cases hji : j = i
    · rw [if_pos hji, if_pos (.inr ⟨by rw [hji]; exact hl, by omega⟩)]
      unfold Cm.cw Cm.cx
      rw [hji, hl, ← hX, Nat.mul_div_cancel _ (Nat.two_pow_pos _)]
    · rw [if_neg hji]
      by_cases hx : l j < n ∨ (l j = n ∧ j < i)
      · rw [if_pos hx, if_pos (by omega)]
      · rw [if_neg hx, if_neg (by omega)]
end Go.Proofs.Ytapjodbaaejldaa


/-
The contracts of code.share, code.Sum, code.leading, code.canonical and code.Make.
-/
namespace Go.Proofs.Ytapjodbaaejldaa
open Go.RowKit

theorem share_ok {x : Int} (h1 : 1 ≤ x) (h2 : x ≤ 12) (w : World) :
    Calls Try.prog 139 #[.int .i64 x] w fun e w' => e = .returned (.int .i64 ((2 ^ (12 - x.toNat) : Nat) : Int)) ∧ w = w' := by
  rcases (show x = 1 ∨ x = 2 ∨ x = 3 ∨ x = 4 ∨ x = 5 ∨ x = 6 ∨ x = 7 ∨ x = 8 ∨ x = 9 ∨ x = 10 ∨ x = 11 ∨ x = 12 by omega) with rfl | rfl | rfl | rfl | rfl | rfl | rfl | rfl | rfl | rfl | rfl | rfl <;>
    (clear h1 h2
     go_enter Try.func139, Try.ntmps139
     go_wp2
     go_ret
     exact ⟨rfl, rfl⟩)
theorem sum_large {A : Option Addr} {n c : Nat} (w : World) (hn : 12 < n) :
    Calls Try.prog 110 #[.slice A n c] w fun e w' => e = .returned (.tuple #[.int .i64 0, .int .i64 2]) ∧ w = w' := by
  have h1 : (12 : Int) < (n : Int) := by omega
  go_enter Try.func110, Try.ntmps110
  go_wp2
  go_ret2
  exact ⟨rfl, rfl⟩
theorem sum_small {A : Option Addr} {n c : Nat} {g : Nat → Int} (w : World) (h : IRow w A n g) (hn : n ≤ 12) :
    Calls Try.prog 110 #[.slice A n c] w fun e w' => e = .returned (.tuple #[.int .i64 (lSum g n), .int .i64 (Cm.lErr g n)]) ∧ w = w' := by
  have H := hid h
  clear h
  have h1 : decide ((12 : Int) < (n : Int)) = false := decide_eq_false (by omega)
  go_enter Try.func110, Try.ntmps110
  go_wp2
  go_loopw [4, 12] (fun x y wr => ∃ i s : Nat, i ≤ n ∧ x = .int .i64 (s : Int) ∧ y = .int .i64 (i : Int) ∧ s ≤ i * 4096 ∧ Hid (s = Cm.tot (Cm.ln g) i) ∧ Hid (Cm.lnE g i = 0) ∧ wr = w) (fun _ y _ => n - (intOf y).toNat)
  case atStart => exact ⟨0, 0, by omega, rfl, rfl, by omega, rfl, rfl, rfl⟩
  case round =>
    obtain ⟨i, s, hi, rfl, rfl, hs, HS, HE, rfl⟩ := hrel
    by_cases hlt : i < n
    · have hlt' : (i : Int) < (n : Int) := by omega
      obtain ⟨b, o, rfl, _, hc⟩ := H.out i hlt
      have HC : Hid (Cm.lnE g (i + 1) = if g i < 1 ∨ 12 < g i then 1 else 0) := by
        show Cm.lnE g (i + 1) = _
        rw [Cm.lnE, if_neg (by simpa using HE.out)]
      have HT : Hid (Cm.tot (Cm.ln g) (i + 1) = s + 2 ^ (12 - (g i).toNat)) := by
        rw [HS.out]; rfl
      have HF : Hid (∀ (_ : g i < 1 ∨ 12 < g i), lSum g n = 0 ∧ Cm.lErr g n = 1) := by
        intro hx
        have h1 : Cm.lErr g n = 1 := by unfold Cm.lErr; rw [if_neg (by omega)]; exact Cm.lnE_one hlt hx
        exact ⟨by unfold lSum; rw [if_neg (by rw [h1]; decide)], h1⟩
      obtain ⟨x, hx⟩ : ∃ x, x = g i := ⟨_, rfl⟩
      rw [← hx] at hc HC HT HF
      clear hx
      by_cases h2 : x < 1
      · have HF2 := hid (HF.out (.inl h2))
        clear HC HT HF
        go_wp2
        go_ret2
        rw [HF2.out.1, HF2.out.2]
        exact ⟨rfl, rfl⟩
      · have h2' : decide (x < 1) = false := decide_eq_false h2
        by_cases h3 : 12 < x
        · have HF2 := hid (HF.out (.inr h3))
          clear HC HT HF
          go_wp2
          go_ret2
          rw [HF2.out.1, HF2.out.2]
          exact ⟨rfl, rfl⟩
        · have h3' : decide (12 < x) = false := decide_eq_false h3
          have HE2 : Hid (Cm.lnE g (i + 1) = 0) := by rw [HC.out, if_neg (by omega)]; trivial
          have hS := share_ok (x := x) (by omega) (by omega) wr
          have hv := pow_small x.toNat
          generalize 2 ^ (12 - x.toNat) = v at hS hv HT
          clear HC HF HE
          go_wp2_with fail
          with_reducible refine hS.mono ?_
          rintro e w2 ⟨rfl, rfl⟩
          clear hS
          go_wp2
          go_roundw
          case measure => simp [intOf]; omega
          case rel => exact ⟨i + 1, s + v, by omega, by go_num, by go_num, by omega, HT.out.symm, HE2, by trivial⟩
    · have hdl : decide ((i : Int) < (n : Int)) = false := decide_eq_false (by omega)
      obtain rfl : n = i := by omega
      have f2 : Cm.lErr g n = 0 := by unfold Cm.lErr; rw [if_neg (by omega)]; exact HE.out
      have f1 : lSum g n = (s : Int) := by unfold lSum; rw [if_pos f2, ← HS.out]
      have F1 := hid f1
      have F2 := hid f2
      clear f1 f2
      go_wp2
      go_ret2
      rw [F1.out, F2.out]
      exact ⟨rfl, rfl⟩
theorem sum_any {A : Option Addr} {n c : Nat} {g : Nat → Int} (w : World) (h : IRow w A n g) :
    Calls Try.prog 110 #[.slice A n c] w fun e w' => e = .returned (.tuple #[.int .i64 (lSum g n), .int .i64 (Cm.lErr g n)]) ∧ w = w' := by
  by_cases hn : n ≤ 12
  · exact sum_small w h hn
  · have h1 : Cm.lErr g n = 2 := by unfold Cm.lErr; rw [if_pos (by omega)]
    have h2 : lSum g n = 0 := by unfold lSum; rw [if_neg (by rw [h1]; decide)]
    rw [h1, h2]
    exact sum_large w (by omega)
/-! ### The digits of a number -/
theorem bits_map : ∀ (n y : Nat), Cm.bits n y = (List.range n).map fun k => if y / 2 ^ (n - 1 - k) % 2 = 1 then 49 else 48
  | 0, _ => rfl
  | n + 1, y => by
    rw [List.range_succ_eq_map, List.map_cons, List.map_map]
    unfold Cm.bits
    rw [bits_map n y]
    congr 1
    refine List.map_congr_left fun k hk => ?_
    have := List.mem_range.1 hk
    show _ = if y / 2 ^ (n + 1 - 1 - (k + 1)) % 2 = 1 then 49 else 48
    rw [show n + 1 - 1 - (k + 1) = n - 1 - k by omega]
/-- Digit k of the twelve. -/
def dig (x k : Nat) : Int := 48 + ((x / 2 ^ (11 - k) % 2 : Nat) : Int)
theorem lead_str (x n : Nat) (hn : n ≤ 12) : strOfNums ((List.range n).map (dig x)) = mkS (Cm.bits n (x / 2 ^ (12 - n))) := by
  refine wd_inj ?_
  have h1 : wd (mkS (Cm.bits n (x / 2 ^ (12 - n)))) = Cm.bits n (x / 2 ^ (12 - n)) := lst_mk _
  rw [h1, bits_map]
  unfold wd
  rw [strOfNums_data, List.map_map]
  refine List.map_congr_left fun k hk => ?_
  have hk2 := List.mem_range.1 hk
  have e : x / 2 ^ (12 - n) / 2 ^ (n - 1 - k) = x / 2 ^ (11 - k) := by
    rw [Nat.div_div_eq_div_mul, ← Nat.pow_add]
    congr 2
    omega
  rw [e]
  show _ = _
  simp only [Function.comp, dig]
  rcases (show x / 2 ^ (11 - k) % 2 = 0 ∨ x / 2 ^ (11 - k) % 2 = 1 by omega) with h | h
  · rw [h]; rfl
  · rw [h]; rfl
def digF (x i j : Nat) : Int := if j < i then dig x j else 0
theorem digF_succ (x i j : Nat) : digF x (i + 1) j = if j = i then dig x i else digF x i j := by
  unfold digF
  by_cases h : j = i
  · subst h; simp
  · rw [if_neg h]
    by_cases h2 : j < i
    · rw [if_pos h2, if_pos (by omega)]
    · rw [if_neg h2, if_neg (by omega)]
theorem Try.infoU8' : (Try.prog.info? 5).map (fun i => (i.zero, i.size, i.bytes)) = some (some (.int .u8 0), 1, 1) := by kernel_rfl
set_option maxHeartbeats 1000000 in
theorem leading_ok {x n : Nat} (hx : x < 4096) (hn1 : 1 ≤ n) (hn : n ≤ 12) (w : World) :
    Calls Try.prog 140 #[.int .i64 (x : Int), .int .i64 (n : Int)] w fun e w' => e = .returned (.string (mkS (Cm.bits n (x / 2 ^ (12 - n))))) ∧ Below w.heap.size w w' := by
  have hmk := run_make_row' (P := Try.prog) 74 5 (.int .u8 0) 1 Try.underlying74 Try.infoU8' rfl .i64 .i64 n (by omega) (by omega) w
  have hmade := World.rowIs_made w (.int .u8 0) n 5
  have hb0 := bl_new w (.cells (madeCells #[.int .u8 0] n) 5)
  generalize w.alloc (.cells (madeCells #[.int .u8 0] n) 5) = w0 at hmk hmade hb0
  have R0 : Hid (w0.rowIs w.heap.size 5 n (fun j => .int .u8 (digF x 0 j))) := hmade.congr fun j _ => by
    unfold digF
    rw [if_neg (by omega)]
  clear hmade
  go_enter Try.func140, Try.ntmps140
  go_wp2
  go_loopw [11] (fun y wr => ∃ i : Nat, i ≤ n ∧ y = .int .i64 (i : Int) ∧ Hid (wr.rowIs w.heap.size 5 n (fun j => .int .u8 (digF x i j))) ∧ Hid (Below w.heap.size w wr)) (fun y _ => n - (intOf y).toNat)
  case atStart => exact ⟨0, by omega, rfl, R0, hb0⟩
  case round =>
    clear R0 hb0 hmk
    obtain ⟨i, hi, rfl, HR, HB⟩ := hrel
    by_cases hlt : i < n
    · have hlt' : (i : Int) < (n : Int) := by omega
      obtain ⟨be, hbe⟩ : ∃ be : Nat, be = 11 - i := ⟨_, rfl⟩
      have ebe : (11 : Int) - (i : Int) = (be : Int) := by omega
      have ebw : IntKind.i64.wrap (be : Int) = (be : Int) := IntWalk.i64_in _ (by omega)
      obtain ⟨q, hq⟩ : ∃ q : Nat, q = x / 2 ^ be := ⟨_, rfl⟩
      have eq1 : (x : Int) / 2 ^ be = (q : Int) := by rw [hq, Int.natCast_ediv, Int.natCast_pow]; rfl
      have hq2 : q ≤ 4096 := by rw [hq]; exact Nat.le_trans (Nat.div_le_self _ _) (by omega)
      obtain ⟨v, hv⟩ : ∃ v : Nat, v = q % 2 := ⟨_, rfl⟩
      have hv2 : v < 2 := by omega
      have eq3 : bits BinOp.and IntKind.i64 (q : Int) 1 = (v : Int) := by rw [hv]; exact Go.Proofs.and_one q (by omega)
      have eq4 : IntKind.u8.wrap (v : Int) = (v : Int) := IntWalk.u8_in _ (by omega)
      have eq5 : IntKind.u8.wrap (48 + (v : Int)) = 48 + (v : Int) := IntWalk.u8_in _ (by omega)
      have hbe12 : be ≤ 12 := by omega
      have hroom := HR.out.frozen i
      have hold := HR.out.cell hlt
      have HR2 : Hid ((wr.setCell ⟨w.heap.size, i, none⟩ (.int .u8 (48 + (v : Int)))).rowIs w.heap.size 5 n (fun j => .int .u8 (digF x (i + 1) j))) := by
        refine (HR.out.set i _).congr fun j _ => ?_
        rw [digF_succ]
        by_cases hji : j = i
        · rw [if_pos hji, if_pos hji, hv, hq, hbe]; rfl
        · rw [if_neg hji, if_neg hji]
      have HB2 : Hid (Below w.heap.size w (wr.setCell ⟨w.heap.size, i, none⟩ (.int .u8 (48 + (v : Int))))) := HB.out.setCell (Nat.le_refl _) _
      clear hbe hq hv HR HB
      go_wp2
      go_roundw
      case measure => simp [intOf]; omega
      case rel => exact ⟨i + 1, by omega, by go_num, HR2, HB2⟩
    · have hdl : decide ((i : Int) < (n : Int)) = false := decide_eq_false (by omega)
      obtain rfl : n = i := by omega
      have hcv := run_convert_bytes_arg (P := Try.prog) wr 74 5 Try.underlying74 Try.underlying5 w.heap.size 0 n n ((List.range n).map (dig x)) (by simp) (fun k hk => by
        rw [Nat.zero_add, HR.out.cell hk, List.getD_eq_getElem?_getD, List.getElem?_map, List.getElem?_range hk]
        unfold digF
        rw [if_pos hk]
        rfl) 9 Try.underlying9
      rw [lead_str x n hn] at hcv
      obtain ⟨t, htt⟩ : ∃ t, t = mkS (Cm.bits n (x / 2 ^ (12 - n))) := ⟨_, rfl⟩
      rw [← htt] at hcv
      have HTT := hid htt
      clear HR htt
      go_wp2
      go_ret
      exact ⟨congrArg (fun z => Ending.returned (.string z)) HTT.out, HB.out⟩
/-! ### The code that is made -/
def CanV (w wr : World) (l : Nat → Nat) (N n i : Nat) : Prop := wr.rowIs w.heap.size 9 N (fun j => .string (mkS (outF l N n i j))) ∧ Below w.heap.size w wr
theorem CanV.keep {w wr w' : World} {l : Nat → Nat} {N n i : Nat} (h : CanV w wr l N n i) (hb : Below wr.heap.size wr w') : CanV w w' l N n i :=
  ⟨h.1.of_block (hb.block _ h.1.lt), bl_then h.2 hb⟩
theorem CanV.next {w wr : World} {l : Nat → Nat} {N n : Nat} (h : CanV w wr l N n N) : CanV w wr l N (n + 1) 0 :=
  ⟨h.1.congr fun j hj => by rw [outF_next hj], h.2⟩
theorem CanV.pass {w wr : World} {l : Nat → Nat} {N n i : Nat} (h : CanV w wr l N n i) (hi : l i ≠ n) : CanV w wr l N n (i + 1) := by
  refine ⟨h.1.congr fun j hj => ?_, h.2⟩
  unfold outF
  by_cases hx : l j < n ∨ (l j = n ∧ j < i)
  · rw [if_pos hx, if_pos (by omega)]
  · rw [if_neg hx, if_neg (fun hy => hx (by
      rcases hy with hy | ⟨hy1, hy2⟩
      · exact .inl hy
      · by_cases hji : j = i
        · subst hji; exact absurd hy1 hi
        · exact .inr ⟨hy1, by omega⟩))]
theorem CanV.add {w wr : World} {l : Nat → Nat} {N n i : Nat} (h : CanV w wr l N n i) (hl : l i = n) : CanV w (wr.setCell ⟨w.heap.size, i, none⟩ (.string (mkS (Cm.bits n (Cm.cp l N n i / 2 ^ (12 - n)))))) l N n (i + 1) := by
  refine ⟨(h.1.set i _).congr fun j _ => ?_, h.2.setCell (Nat.le_refl _) _⟩
  unfold outF
  by_cases hji : j = i
  · rw [if_pos hji, if_pos (.inr ⟨by rw [hji]; exact hl, by omega⟩)]
    unfold Cm.cw Cm.cx
    rw [hji, hl]
  · rw [if_neg hji]
    by_cases hx : l j < n ∨ (l j = n ∧ j < i)
    · rw [if_pos hx, if_pos (by omega)]
    · rw [if_neg hx, if_neg (by omega)]
theorem cp_le {l : Nat → Nat} {N n i : Nat} (hi : i ≤ N) (hn : n ≤ 13) (hl : ∀ j, j < N → l j ≤ 12) (h0 : n = 13 → i = 0) : Cm.cp l N n i ≤ Cm.tot l N := by
  rw [← Cm.cp_last hl]
  by_cases h : n = 13
  · rw [h0 h, h]
    exact Nat.le_refl _
  · have a1 := Cm.cp_mono_i l (N := N) (n := n) hi
    have a2 := Cm.cp_next l N n
    have a3 := Cm.cp_mono_n l N (show n + 1 ≤ 13 by omega)
    omega
set_option maxHeartbeats 2000000 in
theorem canonical_ok {A : Option Addr} {N c : Nat} {g : Nat → Int} (w : World) (h : IRow w A N g) (hN : N ≤ 12) (hg : ∀ j, j < N → 1 ≤ g j ∧ g j ≤ 12) (ht : Cm.tot (Cm.ln g) N ≤ 4096) :
    Calls Try.prog 111 #[.slice A N c] w fun e w' => e = .returned (.slice (some ⟨w.heap.size, 0, none⟩) N N) ∧ w'.rowIs w.heap.size 9 N (fun j => .string (mkS (Cm.cw (Cm.ln g) N j))) ∧ Below w.heap.size w w' := by
  have hln : ∀ j, j < N → ((Cm.ln g j : Nat) : Int) = g j ∧ 1 ≤ Cm.ln g j ∧ Cm.ln g j ≤ 12 := fun j hj => by
    have := hg j hj
    unfold Cm.ln
    omega
  have H : Hid (∀ j, j < N → ∃ b o, A = some ⟨b, o, none⟩ ∧ b < w.heap.size ∧ w.cell? ⟨b, o + j, none⟩ = some (.int .i64 ((Cm.ln g j : Nat) : Int))) := by
    intro j hj
    obtain ⟨b, o, h1, h2, h3⟩ := h j hj
    exact ⟨b, o, h1, h2, by rw [h3, (hln j hj).1]⟩
  have HL : Hid (∀ j, j < N → 1 ≤ Cm.ln g j ∧ Cm.ln g j ≤ 12) := fun j hj => (hln j hj).2
  have HT := hid ht
  clear h hg hln ht
  generalize Cm.ln g = l at *
  have hmk := run_make_row' (P := Try.prog) 57 9 (.string ⟨#[]⟩) 16 Try.underlying57 Try.infoStr' rfl .i64 .i64 N (by omega) (by omega) w
  have hmade := World.rowIs_made w (.string ⟨#[]⟩) N 9
  have hb0 := bl_new w (.cells (madeCells #[.string ⟨#[]⟩] N) 9)
  generalize w.alloc (.cells (madeCells #[.string ⟨#[]⟩] N) 9) = w0 at hmk hmade hb0
  have R0 : Hid (CanV w w0 l N 1 0) := by
    refine ⟨hmade.congr fun j hj => ?_, hb0⟩
    unfold outF
    rw [if_neg (by have := (HL.out j hj).1; omega)]
    rfl
  have E0 : Hid (0 = Cm.cp l N 1 0) := (Cm.cp_first fun j hj => (HL.out j hj).1).symm
  clear hmade hb0
  go_enter Try.func111, Try.ntmps111
  go_wp2
  go_loopw [4, 5] (fun x y wr => ∃ n p : Nat, 1 ≤ n ∧ n ≤ 13 ∧ p ≤ 4096 ∧ x = .int .i64 (p : Int) ∧ y = .int .i64 (n : Int) ∧ Hid (p = Cm.cp l N n 0) ∧ Hid (CanV w wr l N n 0)) (fun _ y _ => 13 - (intOf y).toNat)
  case atStart => exact ⟨1, 0, by omega, by omega, by omega, rfl, rfl, E0, R0⟩
  case round =>
    clear R0 E0 hmk
    obtain ⟨n, p, hn1, hn2, hp, rfl, rfl, HP, HC⟩ := hrel
    by_cases hn : n ≤ 12
    · have hn' : (n : Int) ≤ 12 := by omega
      go_wp2
      go_loopw [4, 16] (fun x y wr => ∃ i p : Nat, i ≤ N ∧ p ≤ 4096 ∧ x = .int .i64 (p : Int) ∧ y = .int .i64 (i : Int) ∧ Hid (p = Cm.cp l N n i) ∧ Hid (CanV w wr l N n i)) (fun _ y _ => N - (intOf y).toNat)
      case atStart => exact ⟨0, p, by omega, hp, rfl, rfl, HP, HC⟩
      case round =>
        clear HC HP hp
        obtain ⟨i, p, hi, hp, rfl, rfl, HP, HC⟩ := hrel
        by_cases hlt : i < N
        · have hlt' : (i : Int) < (N : Int) := by omega
          obtain ⟨b, o, rfl, hbl, hc0⟩ := H.out i hlt
          have hc : wr.cell? ⟨b, o + i, none⟩ = some (.int .i64 ((l i : Nat) : Int)) := (HC.out.2.cell (p := ⟨b, o + i, none⟩) hbl).trans hc0
          clear hc0
          by_cases hln : l i = n
          · have hne : (((l i : Nat) : Int) == (n : Int)) = true := by rw [hln]; simp
            have hpt : p + 2 ^ (12 - n) ≤ 4096 := by
              have h1 := Cm.cp_tot (l := l) (N := N) (i := i) hlt fun j hj => (HL.out j hj).2
              rw [hln, ← HP.out] at h1
              exact Nat.le_trans h1 HT.out
            have hpp := Nat.two_pow_pos (12 - n)
            have hLd := leading_ok (x := p) (by omega) hn1 hn wr
            have HSh := hid (fun W => share_ok (x := (n : Int)) (by omega) (by omega) W)
            rw [Int.toNat_natCast] at HSh
            have HAdd : Hid (∀ W, CanV w W l N n i → CanV w (W.setCell ⟨w.heap.size, i, none⟩ (.string (mkS (Cm.bits n (p / 2 ^ (12 - n)))))) l N n (i + 1)) := by
              intro W hW
              have := hW.add hln
              rwa [← HP.out] at this
            have HP2 : Hid (p + 2 ^ (12 - n) = Cm.cp l N n (i + 1)) := by
              show _ = _
              rw [Cm.cp_yes hln, ← HP.out]
            generalize mkS (Cm.bits n (p / 2 ^ (12 - n))) = t at hLd HAdd
            generalize 2 ^ (12 - n) = v at hpt HSh HP2 hpp
            generalize l i = li at hc hne
            clear HP hln
            go_wp2_with fail
            with_reducible refine hLd.mono ?_
            rintro e w2 ⟨rfl, hb2⟩
            have HC2 := hid (HC.out.keep hb2)
            clear hLd HC hb2 hc
            have hroom := HC2.out.1.frozen i
            have hold := HC2.out.1.cell hlt
            have HC3 := hid (HAdd.out _ HC2.out)
            clear HC2 HAdd
            go_wp2_with fail
            with_reducible refine (HSh.out _).mono ?_
            rintro e w3 ⟨rfl, rfl⟩
            clear HSh hroom hold
            generalize w2.setCell ⟨w.heap.size, i, none⟩ (.string t) = w4 at HC3 ⊢
            go_wp2
            go_roundw
            case measure => simp [intOf]; omega
            case rel => exact ⟨i + 1, p + v, by omega, by omega, by go_num, by go_num, HP2, HC3⟩
          · have hne : (((l i : Nat) : Int) == (n : Int)) = false := beq_eq_false_iff_ne.2 (by omega)
            have HC2 := hid (HC.out.pass hln)
            have HP2 : Hid (p = Cm.cp l N n (i + 1)) := by
              show _ = _
              rw [Cm.cp_no hln, ← HP.out]
            clear HC HP hln
            generalize l i = li at hc hne
            go_wp2
            go_roundw
            case measure => simp [intOf]; omega
            case rel => exact ⟨i + 1, p, by omega, hp, rfl, by go_num, HP2, HC2⟩
        · have hdl : decide ((i : Int) < (N : Int)) = false := decide_eq_false (by omega)
          obtain rfl : N = i := by omega
          have HC2 := hid HC.out.next
          have HP2 : Hid (p = Cm.cp l N (n + 1) 0) := by
            show _ = _
            rw [← Cm.cp_next, ← HP.out]
          clear HC HP
          go_wp2
          go_roundw
          case measure => simp [intOf]; omega
          case rel => exact ⟨n + 1, p, by omega, by omega, hp, rfl, by go_num, HP2, HC2⟩
    · have hdl : decide ((n : Int) ≤ 12) = false := decide_eq_false (by omega)
      obtain rfl : n = 13 := by omega
      have HR : Hid (wr.rowIs w.heap.size 9 N (fun j => .string (mkS (Cm.cw l N j))) ∧ Below w.heap.size w wr) := by
        refine ⟨HC.out.1.congr fun j hj => ?_, HC.out.2⟩
        unfold outF
        rw [if_pos (.inl (by have := (HL.out j hj).2; omega))]
      clear HC
      go_wp2
      go_ret
      exact ⟨rfl, HR.out.1, HR.out.2⟩
theorem MakePost.no {g : Nat → Int} {n : Nat} {w w' : World} {E : Int} (e : E = mErr g n) (h : E ≠ 0) (hb : Below w.heap.size w w') : MakePost g n w (.returned (.tuple #[.slice none 0 0, .int .i64 E])) w' :=
  ⟨⟨none, 0, 0, by rw [e], Nat.le_refl _, fun k hk => by omega, fun _ => rfl, fun h2 => absurd (e.trans h2) h⟩, hb⟩
theorem MakePost.ok {g : Nat → Int} {n : Nat} {w w' : World} (h : mErr g n = 0) (hr : w'.rowIs w.heap.size 9 n (fun j => .string (mkS (Cm.cw (Cm.ln g) n j)))) (hb : Below w.heap.size w w') : MakePost g n w (.returned (.tuple #[.slice (some ⟨w.heap.size, 0, none⟩) n n, .int .i64 0])) w' := by
  refine ⟨⟨some ⟨w.heap.size, 0, none⟩, n, n, by rw [h], Nat.le_refl _, fun k hk => ⟨w.heap.size, 0, rfl, hr.lt, ?_⟩, fun h2 => absurd h h2, fun _ => rfl⟩, hb⟩
  rw [Nat.zero_add]
  exact hr.cell hk
theorem make_any {A : Option Addr} {n c : Nat} {g : Nat → Int} (w : World) (h : IRow w A n g) :
    Calls Try.prog 75 #[.slice A n c] w (MakePost g n w) := by
  have hS := sum_any (c := c) w h
  go_enter Try.func75, Try.ntmps75
  by_cases hE : Cm.lErr g n = 0
  · have hl : lSum g n = ((Cm.tot (Cm.ln g) n : Nat) : Int) := by unfold lSum; rw [if_pos hE]
    obtain ⟨hn, hg⟩ := lErr_zero.1 hE
    rw [hE, hl] at hS
    by_cases hT : 4096 < Cm.tot (Cm.ln g) n
    · have HM : Hid (4 = mErr g n) := by show _ = _; unfold mErr; rw [if_neg (by simpa using hE), if_pos hT]
      have hT' : (4096 : Int) < ((Cm.tot (Cm.ln g) n : Nat) : Int) := by omega
      clear hE hl hg hT
      generalize Cm.tot (Cm.ln g) n = T at hS hT'
      go_wp2_with fail
      with_reducible refine hS.mono ?_
      rintro e w1 ⟨rfl, rfl⟩
      clear hS
      go_wp2
      go_ret2
      exact MakePost.no HM.out (by decide) (Below.refl _ _)
    · have HM : Hid (mErr g n = 0) := by show _ = _; unfold mErr; rw [if_neg (by simpa using hE), if_neg hT]
      have hC := canonical_ok (c := c) w h hn hg (by omega)
      have hT' : decide ((4096 : Int) < ((Cm.tot (Cm.ln g) n : Nat) : Int)) = false := decide_eq_false (by omega)
      have hT2 : ¬ (4096 : Int) < ((Cm.tot (Cm.ln g) n : Nat) : Int) := by omega
      clear hE hl hg hT
      generalize Cm.tot (Cm.ln g) n = T at hS hT' hT2
      go_wp2_with fail
      with_reducible refine hS.mono ?_
      rintro e w1 ⟨rfl, rfl⟩
      clear hS
      go_wp2_with fail
      with_reducible refine hC.mono ?_
      rintro e w2 ⟨rfl, hr, hb⟩
      have HR := hid hr
      clear hC hr
      go_wp2
      go_ret2
      exact MakePost.ok HM.out HR.out hb
  · have hE' : (Cm.lErr g n != 0) = true := bne_iff_ne.2 hE
    have HM : Hid (Cm.lErr g n = mErr g n) := by show _ = _; unfold mErr; rw [if_pos hE]
    have HE := hid hE
    clear hE
    obtain ⟨E, hEE⟩ : ∃ E, E = Cm.lErr g n := ⟨_, rfl⟩
    rw [← hEE] at hS hE' HM HE
    clear hEE
    generalize lSum g n = T at hS
    go_wp2_with fail
    with_reducible refine hS.mono ?_
    rintro e w1 ⟨rfl, rfl⟩
    clear hS
    go_wp2
    go_ret2
    exact MakePost.no HM.out HE.out (Below.refl _ _)
end Go.Proofs.Ytapjodbaaejldaa


/-
The contracts of tree.Check, tree.Cost and tree.Make. (Walked of a stand-in: to be held against the code that lands.)
-/
namespace Go.Proofs.Ytapjodbaaejldaa
open Go.RowKit

theorem tcheck_any {A : Option Addr} {n c : Nat} {g : Nat → Int} (w : World) (h : IRow w A n g) :
    Calls Try.prog 108 #[.slice A n c] w fun e w' => e = .returned (.int .i64 (Hm.wErr g n)) ∧ w = w' := by
  by_cases hn : 12 < n
  · have e : Hm.wErr g n = 2 := by unfold Hm.wErr; rw [if_pos hn]
    rw [e]
    have h1 : (12 : Int) < (n : Int) := by omega
    clear e h
    go_enter Try.func108, Try.ntmps108
    go_wp2
    go_ret
    exact ⟨rfl, rfl⟩
  · have h1 : decide ((12 : Int) < (n : Int)) = false := decide_eq_false (by omega)
    have HE : Hid (Hm.wErr g n = Hm.wnE g n) := by show _ = _; unfold Hm.wErr; rw [if_neg hn]
    have H := hid h
    clear h
    go_enter Try.func108, Try.ntmps108
    go_wp2
    go_loopw [10] (fun y wr => ∃ i : Nat, i ≤ n ∧ y = .int .i64 (i : Int) ∧ Hid (∀ j, j < i → ¬ Hm.Off1 (g j)) ∧ w = wr) (fun y _ => n - (intOf y).toNat)
    case atStart => exact ⟨0, by omega, rfl, fun j hj => by omega, rfl⟩
    case round =>
      obtain ⟨i, hi, rfl, HI, rfl⟩ := hrel
      by_cases hlt : i < n
      · have hlt' : (i : Int) < (n : Int) := by omega
        obtain ⟨b, o, rfl, _, hc⟩ := H.out i hlt
        have HB : Hid (Hm.Off1 (g i) → Hm.wErr g n = 1) := fun hx => by rw [HE.out]; exact Hm.wnE_one hlt hx
        have HN : Hid (¬ Hm.Off1 (g i) → ∀ j, j < i + 1 → ¬ Hm.Off1 (g j)) := by
          intro hx j hj
          by_cases e : j = i
          · subst e; exact hx
          · exact HI.out j (by omega)
        clear HI
        generalize g i = x at hc HB HN
        by_cases h2 : x < 1
        · have HR := hid (HB.out (.inl h2))
          clear HB HN
          go_wp2
          go_ret
          rw [HR.out]
          exact ⟨rfl, rfl⟩
        · have h2' : decide (x < 1) = false := decide_eq_false h2
          by_cases h3 : 10000 < x
          · have HR := hid (HB.out (.inr h3))
            clear HB HN
            go_wp2
            go_ret
            rw [HR.out]
            exact ⟨rfl, rfl⟩
          · have h3' : decide (10000 < x) = false := decide_eq_false h3
            have HR := hid (HN.out fun hx => hx.elim h2 h3)
            clear HB HN
            go_wp2
            go_roundw
            case measure => simp [intOf]; omega
            case rel => exact ⟨i + 1, by omega, by go_num, HR, by trivial⟩
      · have hdl : decide ((i : Int) < (n : Int)) = false := decide_eq_false (by omega)
        have HR : Hid (Hm.wErr g n = 0) := by
          show _ = _
          rw [HE.out, Hm.wnE_zero]
          exact fun j hj => HI.out j (by omega)
        go_wp2
        go_ret
        rw [HR.out]
        exact ⟨rfl, rfl⟩
theorem TMakePost.no {g : Nat → Int} {n : Nat} {w w' : World} {E : Int} (e : E = Hm.wErr g n) (h : E ≠ 0) (hb : Below w.heap.size w w') : TMakePost g n w (.returned (.tuple #[.slice none 0 0, .int .i64 E])) w' :=
  ⟨⟨none, 0, 0, by rw [e], Nat.le_refl _, fun k hk => by omega, fun _ => rfl, fun h2 => absurd (e.trans h2) h⟩, hb⟩
theorem TMakePost.ok {g : Nat → Int} {n c : Nat} {A : Option Addr} {w w' : World} (h : Hm.wErr g n = 0) (hc : n ≤ c) (hr : SRow w' A n (fun j => mkS (Cm.cw (lensF g n) n j))) (hb : Below w.heap.size w w') : TMakePost g n w (.returned (.tuple #[.slice A n c, .int .i64 0])) w' :=
  ⟨⟨A, n, c, by rw [h], hc, hr, fun h2 => absurd h h2, fun _ => rfl⟩, hb⟩
theorem lens_make {g : Nat → Int} {n : Nat} (h : Hm.wErr g n = 0) : mErr (fun k => ((lensF g n k : Nat) : Int)) n = 0 := by
  unfold mErr
  have h1 := lens_err h
  have h2 := (lensF_opt h).fit
  rw [if_neg (by simpa using h1), lens_ln, if_neg (by omega)]
/-- Over the contract of tree.Lens. -/
theorem tmake_any {A : Option Addr} {n c : Nat} {g : Nat → Int} (w : World) (hLens : Calls Try.prog 74 #[.slice A n c] w (LensPost g n w)) :
    Calls Try.prog 36 #[.slice A n c] w (TMakePost g n w) := by
  go_enter Try.func36, Try.ntmps36
  go_wp2_with fail
  with_reducible refine hLens.mono ?_
  rintro e w1 ⟨⟨A1, m1, c1, rfl, hc1, hr1, z1, f1⟩, hb1⟩
  clear hLens
  by_cases hE : Hm.wErr g n = 0
  · obtain rfl : m1 = n := f1 hE
    have hM := make_any (c := c1) w1 hr1
    have HM := hid (lens_make hE)
    have HE := hid hE
    rw [hE]
    clear z1 f1 hr1 hE
    go_wp2_with fail
    with_reducible refine hM.mono ?_
    rintro e w2 ⟨⟨A2, m2, c2, rfl, hc2, hr2, _, f2⟩, hb2⟩
    obtain rfl : m2 = m1 := f2 HM.out
    rw [HM.out]
    rw [lens_ln] at hr2
    have HR := hid hr2
    clear hM hr2 f2
    go_wp2
    go_ret2
    exact TMakePost.ok HE.out hc2 HR.out (bl_then hb1 hb2)
  · have hE' : (Hm.wErr g n != 0) = true := bne_iff_ne.2 hE
    obtain ⟨x, hx⟩ : ∃ x, x = Hm.wErr g n := ⟨_, rfl⟩
    have HX := hid hx
    rw [← hx] at hE hE' ⊢
    clear z1 f1 hr1 hx
    go_wp2
    go_ret2
    exact TMakePost.no HX.out hE hb1
end Go.Proofs.Ytapjodbaaejldaa

