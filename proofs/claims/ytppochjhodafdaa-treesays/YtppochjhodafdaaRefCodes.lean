/-
The contract of quillref.CodesOf.
-/
import Derived.Test.YtppochjhodafdaaRefBad
import Derived.Test.YtppochjhodafdaaRefLens
import Derived.Laws.BytesArg
import Derived.Laws.IdiomStrings
import Derived.Lib.RabinKarpLaws
namespace Go.Proofs.Ytppochjhodafdaa
open Go.RowKit

theorem bits_get : ∀ {n t : Nat} (x : Nat), t < n → (Cm.bits n x).take (t + 1) = (Cm.bits n x).take t ++ [if x / 2 ^ (n - 1 - t) % 2 = 1 then 49 else 48]
  | 0, t, x, h => by omega
  | n + 1, 0, x, _ => by unfold Cm.bits; simp
  | n + 1, t + 1, x, h => by
    have ih := bits_get (n := n) (t := t) x (by omega)
    unfold Cm.bits
    rw [List.take_succ_cons, List.take_succ_cons, ih, List.cons_append, show n + 1 - 1 - (t + 1) = n - 1 - t by omega]
theorem bits_all (n x : Nat) : (Cm.bits n x).take n = Cm.bits n x := List.take_of_length_le (by rw [Cm.bits_len]; omega)
/-- One byte more at a string. -/
theorem mk_app (l : List UInt8) (b : UInt8) : mkS l ++ (⟨#[b]⟩ : ByteArray) = mkS (l ++ [b]) := by
  have h : wd (mkS l ++ (⟨#[b]⟩ : ByteArray)) = wd (mkS (l ++ [b])) := by
    rw [wd_app]
    show lst (mkS l) ++ [b] = lst (mkS (l ++ [b]))
    rw [lst_mk, lst_mk]
  exact wd_inj h
theorem bit_str (v : Nat) (h : v < 2) : strOfNums [48 + (v : Int)] = ⟨#[if v = 1 then 49 else 48]⟩ := by
  rcases (show v = 0 ∨ v = 1 by omega) with rfl | rfl <;> rfl
theorem one_byte' (w : World) (x : Int) (t : TypeId) : ∀ i, i < 1 → ((w.alloc (.cells #[.int .u8 x] t)).drew).cell? ⟨w.heap.size, 0 + i, none⟩ = some (.int .u8 ([x].getD i 0)) := by
  intro i hi
  obtain rfl : i = 0 := by omega
  show (w.alloc (.cells #[.int .u8 x] t)).cell? ⟨w.heap.size, 0, none⟩ = some (.int .u8 x)
  simp
/-- What 'out' holds at place j when the words before place i of length n are made. -/
def outF (l : Nat → Nat) (N n i j : Nat) : List UInt8 := if l j < n ∨ (l j = n ∧ j < i) then Cm.cw l N j else []
theorem OwnL.below {w w' : World} {base : Nat} {v : Value} {L : List (List UInt8)} (h : OwnL w base v L) (hb : Below w.heap.size w w') : OwnL w' base v L := own_of_block h (fun k hk => hb.block k (World.ownsRow.lt h k hk).2)
/-- The memory of CodesOf. -/
def CanW (w wr : World) (l : Nat → Nat) (N n i : Nat) (v : Value) : Prop :=
  ∃ all, OwnL wr (w.heap.size + 1) v all ∧ all.length ≤ 12 * n + i ∧ Cm.Til all n (Cm.cp l N n i) ∧ Cm.cp l N n i ≤ 4096 ∧ wr.rowIs w.heap.size 9 N (fun j => .string (mkS (outF l N n i j))) ∧ Below w.heap.size w wr ∧ w.heap.size + 1 ≤ wr.heap.size
theorem CanW.keep {w wr w' : World} {l : Nat → Nat} {N n i : Nat} {v : Value} (h : CanW w wr l N n i v) (hb : Below wr.heap.size wr w') : CanW w w' l N n i v := by
  obtain ⟨all, h1, h2, h3, h4, h5, h6, h7⟩ := h
  exact ⟨all, h1.below hb, h2, h3, h4, h5.of_block (hb.block _ h5.lt), bl_then h6 hb, Nat.le_trans h7 hb.size⟩
theorem outF_next {l : Nat → Nat} {N n j : Nat} (hj : j < N) : outF l N n N j = outF l N (n + 1) 0 j := by
  unfold outF
  by_cases h : l j < n ∨ (l j = n ∧ j < N)
  · rw [if_pos h, if_pos (by omega)]
  · rw [if_neg h, if_neg (by omega)]
theorem CanW.next {w wr : World} {l : Nat → Nat} {N n : Nat} {v : Value} (h : CanW w wr l N n N v) (hN : N ≤ 12) : CanW w wr l N (n + 1) 0 v := by
  obtain ⟨all, h1, h2, h3, h4, h5, h6, h7⟩ := h
  rw [Cm.cp_next] at h3 h4
  exact ⟨all, h1, by omega, h3.more (by omega), h4, h5.congr fun j hj => by rw [outF_next hj], h6, h7⟩
theorem CanW.pass {w wr : World} {l : Nat → Nat} {N n i : Nat} {v : Value} (h : CanW w wr l N n i v) (hi : l i ≠ n) : CanW w wr l N n (i + 1) v := by
  obtain ⟨all, h1, h2, h3, h4, h5, h6, h7⟩ := h
  have e : Cm.cp l N n (i + 1) = Cm.cp l N n i := Cm.cp_no hi
  refine ⟨all, h1, by omega, by rw [e]; exact h3, by rw [e]; exact h4, h5.congr fun j hj => ?_, h6, h7⟩
  unfold outF
  by_cases hx : l j < n ∨ (l j = n ∧ j < i)
  · rw [if_pos hx, if_pos (by omega)]
  · rw [if_neg hx, if_neg (fun hy => hx (by
      rcases hy with hy | ⟨hy1, hy2⟩
      · exact .inl hy
      · by_cases hji : j = i
        · subst hji; exact absurd hy1 hi
        · exact .inr ⟨hy1, by omega⟩))]
/-- One word is made and taken. -/
theorem CanW.add {w wr : World} {l : Nat → Nat} {N n i X : Nat} {v : Value} {all : List (List UInt8)} (hown : OwnL wr (w.heap.size + 1) v (all ++ [Cm.bits n X])) (h2 : all.length ≤ 12 * n + i) (h3 : Cm.Til all n (Cm.cp l N n i)) (hX : X * 2 ^ (12 - n) = Cm.cp l N n i) (hXn : X < 2 ^ n) (hn : n ≤ 12) (hl : l i = n)
    (h5 : wr.rowIs w.heap.size 9 N (fun j => if j = i then .string (mkS (Cm.bits n X)) else .string (mkS (outF l N n i j)))) (h6 : Below w.heap.size w wr) (h7 : w.heap.size + 1 ≤ wr.heap.size) : CanW w wr l N n (i + 1) v := by
  have e : Cm.cp l N n (i + 1) = Cm.cp l N n i + 2 ^ (12 - n) := Cm.cp_yes hl
  refine ⟨_, hown, ?_, ?_, ?_, h5.congr fun j _ => ?_, h6, h7⟩
  · rw [List.length_append, List.length_singleton]; omega
  · rw [e]; exact h3.add hXn hX
  · have h8 := Nat.mul_le_mul_right (2 ^ (12 - n)) (show X + 1 ≤ 2 ^ n from hXn)
    rw [Cm.pow12 hn, Nat.add_mul, hX, Nat.one_mul] at h8
    rw [e]; exact h8
  · unfold outF
    by_cases hji : j = i
    · rw [if_pos hji, if_pos (.inr ⟨by rw [hji]; exact hl, by omega⟩)]
      unfold Cm.cw Cm.cx
      rw [hji, hl, ← hX, Nat.mul_div_cancel _ (Nat.two_pow_pos _)]
    · rw [if_neg hji]
      by_cases hx : l j < n ∨ (l j = n ∧ j < i)
      · rw [if_pos hx, if_pos (by omega)]
      · rw [if_neg hx, if_neg (by omega)]
set_option maxHeartbeats 4000000 in
theorem CodesOf_ok {A : Option Addr} {N c : Nat} {g : Nat → Int} (w : World) (h : IRow w A N g) (hN : N ≤ 12) (hg : ∀ j, j < N → 1 ≤ g j ∧ g j ≤ 12) :
    Calls Try.prog 15 #[.slice A N c] w fun e w' => ((Cm.tot (Cm.ln g) N ≤ 4096 ∧ e = .returned (.tuple #[.slice (some ⟨w.heap.size, 0, none⟩) N N, .bool true]) ∧ w'.rowIs w.heap.size 9 N (fun j => .string (mkS (Cm.cw (Cm.ln g) N j)))) ∨ (4096 < Cm.tot (Cm.ln g) N ∧ e = .returned (.tuple #[.slice none 0 0, .bool false]))) ∧ Below w.heap.size w w' := by
  have hln : ∀ j, j < N → ((Cm.ln g j : Nat) : Int) = g j ∧ 1 ≤ Cm.ln g j ∧ Cm.ln g j ≤ 12 := fun j hj => by
    have := hg j hj
    unfold Cm.ln
    omega
  have H : Hid (∀ j, j < N → ∃ b o, A = some ⟨b, o, none⟩ ∧ b < w.heap.size ∧ w.cell? ⟨b, o + j, none⟩ = some (.int .i64 ((Cm.ln g j : Nat) : Int))) := by
    intro j hj
    obtain ⟨b, o, h1, h2, h3⟩ := h j hj
    exact ⟨b, o, h1, h2, by rw [h3, (hln j hj).1]⟩
  have HL : Hid (∀ j, j < N → 1 ≤ Cm.ln g j ∧ Cm.ln g j ≤ 12) := fun j hj => (hln j hj).2
  clear h hg hln
  generalize Cm.ln g = l at *
  have hmk := run_make_row' (P := Try.prog) 28 9 (.string ⟨#[]⟩) 16 Try.underlying28 Try.infoStr' rfl .i64 .i64 N (by omega) (by omega) w
  have hmade := World.rowIs_made w (.string ⟨#[]⟩) N 9
  have hb0 := bl_new w (.cells (madeCells #[.string ⟨#[]⟩] N) 9)
  have hs0 : (w.alloc (.cells (madeCells #[.string ⟨#[]⟩] N) 9)).heap.size = w.heap.size + 1 := by simp
  generalize w.alloc (.cells (madeCells #[.string ⟨#[]⟩] N) 9) = w0 at hmk hmade hb0 hs0
  have R0 : Hid (CanW w w0 l N 1 0 (.slice none 0 0)) := by
    have e : Cm.cp l N 1 0 = 0 := Cm.cp_first fun j hj => (HL.out j hj).1
    refine ⟨[], OwnL.zero _ _, Nat.zero_le _, by rw [e]; exact Cm.Til.zero 1, by omega, hmade.congr fun j hj => ?_, hb0, by omega⟩
    unfold outF
    rw [if_neg (by have := (HL.out j hj).1; omega)]
    rfl
  clear hmade hb0 hs0
  go_enter Try.func15, Try.ntmps15
  go_wp2
  go_loopw [5, 6] (fun v y wr => ∃ n : Nat, 1 ≤ n ∧ n ≤ 13 ∧ y = .int .i64 (n : Int) ∧ Hid (CanW w wr l N n 0 v)) (fun _ y _ => 13 - (intOf y).toNat)
  case atStart => exact ⟨1, by omega, by omega, rfl, R0⟩
  case round =>
    clear R0 hmk
    obtain ⟨n, hn1, hn2, rfl, HC⟩ := hrel
    by_cases hn : n ≤ 12
    · have hn' : (n : Int) ≤ 12 := by omega
      go_wp2
      go_loopw [5, 21] (fun v y wr => ∃ i : Nat, i ≤ N ∧ y = .int .i64 (i : Int) ∧ Hid (CanW w wr l N n i v)) (fun _ y _ => N - (intOf y).toNat)
      case atStart => exact ⟨0, by omega, rfl, HC⟩
      case round =>
        clear HC
        obtain ⟨i, hi, rfl, HC⟩ := hrel
        by_cases hlt : i < N
        · have hlt' : (i : Int) < (N : Int) := by omega
          obtain ⟨b, o, rfl, hbl, hc0⟩ := H.out i hlt
          have hc : wr.cell? ⟨b, o + i, none⟩ = some (.int .i64 ((l i : Nat) : Int)) := by
            obtain ⟨_, _, _, _, _, _, hbw, _⟩ := HC.out
            exact (hbw.cell (p := ⟨b, o + i, none⟩) hbl).trans hc0
          clear hc0
          by_cases hln : l i = n
          · have hne : (((l i : Nat) : Int) != (n : Int)) = false := by rw [hln]; simp
            obtain ⟨P, hP⟩ : ∃ P, P = 2 ^ n := ⟨_, rfl⟩
            have hP1 : P ≤ 4096 := by rw [hP]; exact Nat.pow_le_pow_right (n := 2) (i := n) (j := 12) (by omega) hn
            have hP2 : (2 : Int) ^ n = (P : Int) := by rw [hP, Int.natCast_pow]; rfl
            have hPw : IntKind.i64.wrap (P : Int) = (P : Int) := IntWalk.i64_in _ (by omega)
            obtain ⟨X, hX⟩ : ∃ X, X = Cm.cx l N i := ⟨_, rfl⟩
            have HX : Hid (X * 2 ^ (12 - n) = Cm.cp l N n i) := by rw [hX]; have := Cm.cx_mul l (N := N) (i := i) (by omega); rw [hln] at this; exact this
            have HP := hid hP
            clear hP hX
            rename World => wi
            obtain ⟨all, k1, k2, k3, k4, k5, k6, k7⟩ := HC.out
            obtain ⟨A2, c2, rfl, hrow⟩ := k1.row
            clear HC
            go_wp2
            go_loopw [31] (fun y w3 => ∃ x : Nat, x ≤ P ∧ x ≤ X ∧ y = .int .i64 (x : Int) ∧ Hid (Below wi.heap.size wi w3)) (fun y _ => P - (intOf y).toNat)
            case atStart => exact ⟨0, by omega, by omega, rfl, Below.refl _ _⟩
            case round =>
              rename World => wq
              obtain ⟨x, hx1, hx2, rfl, HBx⟩ := hrel
              by_cases hxP : x < P
              · have hxP' : (x : Int) < (P : Int) := by omega
                go_wp2
                go_loopw [11] (fun y w4 => ∃ t : Nat, t ≤ n ∧ y = .int .i64 ((n : Int) - 1 - (t : Int)) ∧ Hid (w4.rowIs wq.heap.size 9 1 (fun _ => .string (mkS ((Cm.bits n x).take t)))) ∧ Hid (Below wq.heap.size wq w4)) (fun y _ => (intOf y + 1).toNat)
                case atStart => exact ⟨0, by omega, by go_num, hid (World.rowIs_alloc wq #[.string ⟨#[]⟩] 9 (fun _ => .string ⟨#[]⟩) (fun i hi => by
                    obtain rfl : i = 0 := by simpa using hi
                    rfl)), bl_new _ _⟩
                case round =>
                  obtain ⟨t, ht, rfl, HR4, HB4⟩ := hrel
                  by_cases htn : t < n
                  · obtain ⟨be, hbe⟩ : ∃ be : Nat, be = n - 1 - t := ⟨_, rfl⟩
                    have ebe : (n : Int) - 1 - (t : Int) = (be : Int) := by omega
                    obtain ⟨q, hq⟩ : ∃ q : Nat, q = x / 2 ^ be := ⟨_, rfl⟩
                    have eq1 : (x : Int) / 2 ^ be = (q : Int) := by rw [hq, Int.natCast_ediv, Int.natCast_pow]; rfl
                    have hq2 : q ≤ 4096 := by rw [hq]; exact Nat.le_trans (Nat.div_le_self _ _) (by omega)
                    obtain ⟨v, hv⟩ : ∃ v : Nat, v = q % 2 := ⟨_, rfl⟩
                    have hv2 : v < 2 := by omega
                    have eq3 : bits BinOp.and IntKind.i64 (q : Int) 1 = (v : Int) := by rw [hv]; exact Go.Proofs.and_one q (by omega)
                    have eq4 : IntKind.u8.wrap (v : Int) = (v : Int) := IntWalk.u8_in _ (by omega)
                    have eq5 : IntKind.u8.wrap (48 + (v : Int)) = 48 + (v : Int) := IntWalk.u8_in _ (by omega)
                    have hbe12 : be ≤ 12 := by omega
                    have hcell := HR4.out.cell (show 0 < 1 by omega)
                    have hroom := HR4.out.frozen 0
                    have hClt := HR4.out.lt
                    have hCne : wq.heap.size ≠ wr.heap.size := by omega
                    have hyz : (mkS ((Cm.bits n x).take t)).size = t := by rw [mk_size, List.length_take, Cm.bits_len]; omega
                    have hcv := run_convert_bytes_arg (P := Try.prog) (wr.alloc (.cells #[.int .u8 (48 + (v : Int))] 5)).drew 48 5 Try.underlying48 Try.underlying5 wr.heap.size 0 1 1 [48 + (v : Int)] rfl (one_byte' wr _ _) 9 Try.underlying9
                    rw [bit_str v hv2] at hcv
                    have HY : mkS ((Cm.bits n x).take t) ++ (⟨#[if v = 1 then 49 else 48]⟩ : ByteArray) = mkS ((Cm.bits n x).take (t + 1)) := by
                      rw [mk_app, bits_get x htn, hv, hq, hbe]
                    replace HY := hid HY
                    have h1s : (⟨#[if v = 1 then 49 else 48]⟩ : ByteArray).size = 1 := rfl
                    generalize (⟨#[if v = 1 then 49 else 48]⟩ : ByteArray) = one at hcv HY h1s
                    obtain ⟨y, hy⟩ : ∃ y, y = mkS ((Cm.bits n x).take t) := ⟨_, rfl⟩
                    rw [← hy] at hcell hyz HY
                    have hbig : ¬ 9223372036854775807 < y.size + one.size := by omega
                    have R5 : Hid ((((wr.setCell ⟨wq.heap.size, 0, none⟩ (.string (y ++ one))).alloc (.cells #[.int .u8 (48 + (v : Int))] 5)).drew).rowIs wq.heap.size 9 1 (fun _ => .string (mkS ((Cm.bits n x).take (t + 1))))) := by
                      refine (((HR4.out.set 0 _).congr fun j hj => ?_).alloc _).drew
                      obtain rfl : j = 0 := by omega
                      rw [if_pos rfl, HY.out]
                    have B5 : Hid (Below wq.heap.size wq (((wr.setCell ⟨wq.heap.size, 0, none⟩ (.string (y ++ one))).alloc (.cells #[.int .u8 (48 + (v : Int))] 5)).drew)) :=
                      ((HB4.out.setCell (Nat.le_refl _) _).alloc (by simpa using Nat.le_of_lt hClt) _).drew
                    clear hbe hq hv hy HR4 HB4 HY
                    go_wp2
                    go_region
                    go_wp2
                    go_roundw
                    case measure => simp [intOf]; omega
                    case rel => exact ⟨t + 1, by omega, by go_num, R5, B5⟩
                  · obtain rfl : n = t := by omega
                    have hdl : decide ((0 : Int) ≤ (n : Int) - 1 - (n : Int)) = false := decide_eq_false (by omega)
                    have hcell := HR4.out.cell (show 0 < 1 by omega)
                    rw [bits_all] at hcell
                    have HBw := hid (bl_then HBx.out HB4.out)
                    have hrowR := hrow.keep HBw.out
                    have HBad : Hid ((∃ k, k < all.length ∧ Cm.Bad (all.getD k []) (wd (mkS (Cm.bits n x)))) ↔ x < X) := by
                      have h1 := k3.bad hn (x := x) (by rw [← HP.out]; exact hxP)
                      rw [← HX.out, Nat.mul_lt_mul_right (Nat.two_pow_pos _)] at h1
                      rw [← h1]
                      have hw : wd (mkS (Cm.bits n x)) = Cm.bits n x := lst_mk _
                      rw [hw]
                      constructor
                      · rintro ⟨k, hk, hb⟩
                        refine ⟨_, ?_, hb⟩
                        rw [List.getD_eq_getElem?_getD, List.getElem?_eq_getElem hk]
                        exact List.getElem_mem _
                      · rintro ⟨z, hz, hb⟩
                        obtain ⟨k, hk, rfl⟩ := List.getElem_of_mem hz
                        refine ⟨k, hk, ?_⟩
                        rw [List.getD_eq_getElem?_getD, List.getElem?_eq_getElem hk]
                        exact hb
                    have hal : all.length ≤ maxLen := by unfold maxLen; omega
                    clear HR4 HB4
                    go_wp2_with fail
                    with_reducible refine (can_has wq.heap.size (mkS (Cm.bits n x)) A2 all.length c2 (fun k => all.getD k []) _ hcell hrowR hal).mono ?_
                    rintro e w5 ⟨⟨r, rfl, hr⟩, rfl⟩
                    rw [HBad.out] at hr
                    clear HBad hrowR hal
                    cases r with
                    | true =>
                      have hxX := hr.1 rfl
                      clear hr hcell
                      go_wp2
                      go_roundw
                      case measure => simp [intOf]; omega
                      case rel => exact ⟨x + 1, by omega, by omega, by go_num, HBw⟩
                    | false =>
                      obtain rfl : X = x := by
                        have : ¬ x < X := fun h => by have := hr.2 h; cases this
                        omega
                      have hxs : (mkS (Cm.bits n X)).size = n := by rw [mk_size, Cm.bits_len]
                      have hne2 := some_bytes (s := mkS (Cm.bits n X)) (by omega)
                      have hrow5 := k5.of_block (HBw.out.block _ k5.lt)
                      have hown5 := k1.below HBw.out
                      have hB5 := bl_then k6 HBw.out
                      have hroom := hrow5.frozen i
                      have hold := hrow5.cell hlt
                      have HR6 := hid (hrow5.set i (.string (mkS (Cm.bits n X))))
                      have HO6 : Hid (OwnL (wr.setCell ⟨w.heap.size, i, none⟩ (.string (mkS (Cm.bits n X)))) (w.heap.size + 1) (.slice A2 all.length c2) all) := own_of_block hown5 (fun k hk => Below.heap_setCell _ _ _ _ (by have := (World.ownsRow.lt hown5 k hk).1; show k ≠ w.heap.size; omega))
                      have HB6 : Hid (Below w.heap.size w (wr.setCell ⟨w.heap.size, i, none⟩ (.string (mkS (Cm.bits n X))))) := hB5.setCell (Nat.le_refl _) _
                      have hz6 : (wr.setCell ⟨w.heap.size, i, none⟩ (.string (mkS (Cm.bits n X)))).heap.size = wr.heap.size := by simp
                      have hs6 : w.heap.size + 1 ≤ wr.heap.size := hrow5.lt
                      have hcell6 := HR6.out.cell hlt
                      simp only [if_true] at hcell6
                      clear hr hrow5 hown5 hB5
                      have hall : all.length < 1000000 := by omega
                      go_wp2_with (at_builtin; with_reducible refine app_lst rfl _ _ rfl rfl HO6.out wr.heap.size hz6 rfl hs6 hall ?_)
                      intro v' w7 hown7 hb7
                      have HC7 : Hid (CanW w w7 l N n (i + 1) v') := by
                        have hl7 : lst (mkS (Cm.bits n X)) = Cm.bits n X := lst_mk _
                        rw [hl7] at hown7
                        refine CanW.add hown7 k2 k3 HX.out (by rw [← HP.out]; exact hxP) hn hln (HR6.out.of_block (hb7.block _ (by omega))) (HB6.out.trans (hb7.mono (by omega))) ?_
                        have := hb7.size
                        rw [hz6] at this
                        omega
                      clear hown7 hb7 HR6 HO6 HB6 hcell6 hcell hroom hold k1 k2 k3 k4 k5 k6 k7 hrow HBx HBw
                      go_wp2
                      go_roundw
                      case measure => simp [intOf]; omega
                      case rel => exact ⟨i + 1, by omega, by go_num, HC7⟩
              · have hdl : decide ((x : Int) < (P : Int)) = false := decide_eq_false (by omega)
                have hrow5 := k5.of_block (HBx.out.block _ k5.lt)
                have hold := hrow5.cell hlt
                have ho : outF l N n i i = [] := by unfold outF; rw [if_neg (by omega)]
                rw [ho] at hold
                have hz : (mkS []).toList.isEmpty = true := no_bytes (by rw [mk_size]; rfl)
                have HT : Hid (4096 < Cm.tot l N) := by
                  have h1 := Cm.cp_tot (l := l) (N := N) (i := i) hlt fun j hj => (HL.out j hj).2
                  rw [hln] at h1
                  have h2 := Nat.mul_le_mul_right (2 ^ (12 - n)) (show 2 ^ n ≤ X by rw [← HP.out]; omega)
                  rw [Cm.pow12 hn, HX.out] at h2
                  have h3 := Nat.two_pow_pos (12 - n)
                  show 4096 < Cm.tot l N
                  omega
                have HBf := hid (bl_then k6 HBx.out)
                clear hrow5 ho hrow k1 k2 k3 k4 k5 k6 k7
                go_wp2
                go_ret2
                exact ⟨.inr ⟨HT.out, rfl⟩, HBf.out⟩
          · have hne : (((l i : Nat) : Int) != (n : Int)) = true := bne_iff_ne.2 (by omega)
            have HC2 := hid (HC.out.pass hln)
            clear HC
            go_wp2
            go_roundw
            case measure => simp [intOf]; omega
            case rel => exact ⟨i + 1, by omega, by go_num, HC2⟩
        · have hdl : decide ((i : Int) < (N : Int)) = false := decide_eq_false (by omega)
          obtain rfl : N = i := by omega
          have HC2 := hid (HC.out.next hN)
          clear HC
          go_wp2
          go_roundw
          case measure => simp [intOf]; omega
          case rel => exact ⟨n + 1, by omega, by omega, by go_num, HC2⟩
    · have hdl : decide ((n : Int) ≤ 12) = false := decide_eq_false (by omega)
      obtain rfl : n = 13 := by omega
      have HR : Hid ((Cm.tot l N ≤ 4096 ∧ wr.rowIs w.heap.size 9 N (fun j => .string (mkS (Cm.cw l N j)))) ∧ Below w.heap.size w wr) := by
        obtain ⟨all, h1, h2, h3, h4, h5, h6, h7⟩ := HC.out
        rw [Cm.cp_last fun j hj => (HL.out j hj).2] at h4
        refine ⟨⟨h4, h5.congr fun j hj => ?_⟩, h6⟩
        unfold outF
        rw [if_pos (.inl (by have := (HL.out j hj).2; omega))]
      clear HC
      go_wp2
      go_ret2
      exact ⟨.inl ⟨HR.out.1.1, rfl, HR.out.1.2⟩, HR.out.2⟩
end Go.Proofs.Ytppochjhodafdaa
