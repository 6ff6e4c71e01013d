
/-
The contract of quillref.CodesOf.
-/
import Derived.Test.YtmgkoliindicgaaRefBad
import Derived.Test.YtmgkoliindicgaaRefLens
import Derived.Laws.BytesArg
import Derived.Laws.IdiomStrings
import Derived.Lib.RabinKarpLaws
namespace Go.Proofs.Ytmgkoliindicgaa
open Go.RowKit

theorem bits_get : ∀ {n t : Nat} (x : Nat), t < n → (Cm.bits n x).take (t + 1) = (Cm.bits n x).take t ++ [if x / 2 ^ (n - 1 - t) % 2 = 1 then 49 else 48]
  | 0, t, x, h => by omega
  | n + 1, 0, x, _ => by unfold Cm.bits; simp
  | n + 1, t + 1, x, h => by
    have ih := bits_get (n := n) (t := t) x (by omega)
    unfold Cm.bits
    rw [List.take_succ_cons, List.take_succ_cons, ih, List.cons_append, show n + 1 - 1 - (t + 1) = n - 1 - t by omega]
theorem bits_all (n x : Nat) : (Cm.bits n x).take n = Cm.bits n x := List.take_of_length_le (by rw [Cm.bits_len]; omega)
/-- One byte more at a string. -/
theorem mk_app (l : List UInt8) (b : UInt8) : mkS l ++ (⟨#[b]⟩ : ByteArray) = mkS (l ++ [b]) := by
  have h : wd (mkS l ++ (⟨#[b]⟩ : ByteArray)) = wd (mkS (l ++ [b])) := by
    rw [wd_app]
    show lst (mkS l) ++ [b] = lst (mkS (l ++ [b]))
    rw [lst_mk, lst_mk]
  exact wd_inj h
theorem bit_str (v : Nat) (h : v < 2) : strOfNums [48 + (v : Int)] = ⟨#[if v = 1 then 49 else 48]⟩ := by
  rcases (show v = 0 ∨ v = 1 by omega) with rfl | rfl <;> rfl
theorem one_byte' (w : World) (x : Int) (t : TypeId) : ∀ i, i < 1 → ((w.alloc (.cells #[.int .u8 x] t)).drew).cell? ⟨w.heap.size, 0 + i, none⟩ = some (.int .u8 ([x].getD i 0)) := by
  intro i hi
  obtain rfl : i = 0 := by omega
  show (w.alloc (.cells #[.int .u8 x] t)).cell? ⟨w.heap.size, 0, none⟩ = some (.int .u8 x)
  simp
/-- What 'out' holds at place j when the words before place i of length n are made. -/
def outF (l : Nat → Nat) (N n i j : Nat) : List UInt8 := if l j < n ∨ (l j = n ∧ j < i) then Cm.cw l N j else []
theorem OwnL.below {w w' : World} {base : Nat} {v : Value} {L : List (List UInt8)} (h : OwnL w base v L) (hb : Below w.heap.size w w') : OwnL w' base v L := own_of_block h (fun k hk => hb.block k (World.ownsRow.lt h k hk).2)
/-- The memory of CodesOf. -/
def CanW (w wr : World) (l : Nat → Nat) (N n i : Nat) (v : Value) : Prop :=
  ∃ all, OwnL wr (w.heap.size + 1) v all ∧ all.length ≤ 12 * n + i ∧ Cm.Til all n (Cm.cp l N n i) ∧ Cm.cp l N n i ≤ 4096 ∧ wr.rowIs w.heap.size 9 N (fun j => .string (mkS (outF l N n i j))) ∧ Below w.heap.size w wr ∧ w.heap.size + 1 ≤ wr.heap.size
theorem CanW.keep {w wr w' : World} {l : Nat → Nat} {N n i : Nat} {v : Value} (h : CanW w wr l N n i v) (hb : Below wr.heap.size wr w') : CanW w w' l N n i v := by
  obtain ⟨all, h1, h2, h3, h4, h5, h6, h7⟩ := h
  exact ⟨all, h1.below hb, h2, h3, h4, h5.of_block (hb.block _ h5.lt), bl_then h6 hb, Nat.le_trans h7 hb.size⟩
theorem outF_next {l : Nat → Nat} {N n j : Nat} (hj : j < N) : outF l N n N j = outF l N (n + 1) 0 j := by
  unfold outF
  by_cases h : l j < n ∨ (l j = n ∧ j < N)
  · rw [if_pos h, if_pos (by omega)]
  · rw [if_neg h, if_neg (by omega)]
theorem CanW.next {w wr : World} {l : Nat → Nat} {N n : Nat} {v : Value} (h : CanW w wr l N n N v) (hN : N ≤ 12) : CanW w wr l N (n + 1) 0 v := by
  obtain ⟨all, h1, h2, h3, h4, h5, h6, h7⟩ := h
  rw [Cm.cp_next] at h3 h4
  exact ⟨all, h1, by omega, h3.more (by omega), h4, h5.congr fun j hj => by rw [outF_next hj], h6, h7⟩
theorem CanW.pass {w wr : World} {l : Nat → Nat} {N n i : Nat} {v : Value} (h : CanW w wr l N n i v) (hi : l i ≠ n) : CanW w wr l N n (i + 1) v := by
  obtain ⟨all, h1, h2, h3, h4, h5, h6, h7⟩ := h
  have e : Cm.cp l N n (i + 1) = Cm.cp l N n i := Cm.cp_no hi
  refine ⟨all, h1, by omega, by rw [e]; exact h3, by rw [e]; exact h4, h5.congr fun j hj => ?_, h6, h7⟩
  unfold outF
  by_cases hx : l j < n ∨ (l j = n ∧ j < i)
  · rw [if_pos hx, if_pos (by omega)]
  · rw [if_neg hx, if_neg (fun hy => hx (by
      rcases hy with hy | ⟨hy1, hy2⟩
      · exact .inl hy
      · by_cases hji : j = i
        · subst hji; exact absurd hy1 hi
        · exact .inr ⟨hy1, by omega⟩))]
/-- One word is made and taken. -/
theorem CanW.add {w wr : World} {l : Nat → Nat} {N n i X : Nat} {v : Value} {all : List (List UInt8)} (hown : OwnL wr (w.heap.size + 1) v (all ++ [Cm.bits n X])) (h2 : all.length ≤ 12 * n + i) (h3 : Cm.Til all n (Cm.cp l N n i)) (hX : X * 2 ^ (12 - n) = Cm.cp l N n i) (hXn : X < 2 ^ n) (hn : n ≤ 12) (hl : l i = n)
    (h5 : wr.rowIs w.heap.size 9 N (fun j => if j = i then .string (mkS (Cm.bits n X)) else .string (mkS (outF l N n i j)))) (h6 : Below w.heap.size w wr) (h7 : w.heap.size + 1 ≤ wr.heap.size) : CanW w wr l N n (i + 1) v := by
  have e : Cm.cp l N n (i + 1) = Cm.cp l N n i + 2 ^ (12 - n) := Cm.cp_yes hl
  refine ⟨_, hown, ?_, ?_, ?_, h5.congr fun j _ => ?_, h6, h7⟩
  · rw [List.length_append, List.length_singleton]; omega
  · rw [e]; exact h3.add hXn hX
  · have h8 := Nat.mul_le_mul_right (2 ^ (12 - n)) (show X + 1 ≤ 2 ^ n from hXn)
    rw [Cm.pow12 hn, Nat.add_mul, hX, Nat.one_mul] at h8
    rw [e]; exact h8
  · unfold outF
    by_cases hji : j = i
    · rw [if_pos hji, if_pos (.inr ⟨by rw [hji]; exact hl, by omega⟩)]
      unfold Cm.cw Cm.cx
      rw [hji, hl, ← hX, Nat.mul_div_cancel _ (Nat.two_pow_pos _)]
    · rw [if_neg hji]
      by_cases hx : l j < n ∨ (l j = n ∧ j < i)
      · rw [if_pos hx, if_pos (by omega)]
      · rw [if_neg hx, if_neg (by omega)]
end Go.Proofs.Ytmgkoliindicgaa
