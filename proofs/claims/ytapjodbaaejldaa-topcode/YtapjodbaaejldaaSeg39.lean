/-
Several texts of this proof, one behind the other.
-/
import Derived.Shelf.Small.Wraps
import Derived.Shelf.Strings.Count
import Derived.Shelf.Strings.Prefix
import Derived.Ground.SlsfProg
import Derived.Test.YtapjodbaaejldaaProg
import Derived.Test.YtapjodbaaejldaaSeg37
import Derived.Test.YtapjodbaaejldaaSeg38
import Derived.Laws.Cover1
import Derived.Laws.BytesArg
import Derived.Laws.IdiomStrings
import Derived.Lib.RabinKarpLaws
/-
Contracts of library functions at this program, each by one application.
-/
namespace Go.Proofs
open Go.Shelf
def Try.lays103_ren : Go.Shelf.Ren := ⟨fun | 103 => 145 | 210 => 168 | 206 => 97 | n => n, fun | 9 => 9 | 4 => 4 | 24 => 166 | 3 => 3 | n => n, fun | n => n⟩
theorem Try.lays103 : Go.Proofs.Lays.n103 Try.prog Try.lays103_ren := {
  mixed := by kernel_rfl
  f103 := Try.func145.trans (congrArg some (by kernel_rfl))
  f206 := Try.func97.trans (congrArg some (by kernel_rfl))
  f210 := Try.func168.trans (congrArg some (by kernel_rfl))
  t3 := Try.underlying3
  a3 := Try.isAgg3
  z3 := Try.sizeOf3
  v3 := Try.zeroValue3
  t4 := Try.underlying4
  a4 := Try.isAgg4
  z4 := Try.sizeOf4
  v4 := Try.zeroValue4
  t9 := Try.underlying9
  a9 := Try.isAgg9
  z9 := Try.sizeOf9
  v9 := Try.zeroValue9
  t24 := Try.underlying166
  a24 := Try.isAgg166
  z24 := Try.sizeOf166
  v24 := Try.zeroValue166 }
open Go.RowKit in
/-- strings.CutPrefix: "CutPrefix returns s without the provided leading prefix string and reports whether it found the prefix. If s doesn't start with prefix, CutPrefix returns s, false. If prefix is the empty string, CutPrefix returns s, true.": IT RETURNS '(Lib.trimPrefix s p, Lib.hasPrefix s p)'; the world is as it was. (LAID: no walk: one application.) -/
theorem Try.strings_CutPrefix (s p : ByteArray) (w : World) :
    Calls Try.prog 145 #[.string s, .string p] w fun e w' => e = .returned (.tuple #[.string ⟨(Lib.trimPrefix s.data.toList p.data.toList).toArray⟩, .bool (Lib.hasPrefix s.data.toList p.data.toList)]) ∧ w' = w := Any.strings_CutPrefix Try.lays103 s p w
def Try.lays138_ren : Go.Shelf.Ren := ⟨fun | 138 => 112 | 195 => 141 | 218 => 142 | 143 => 143 | 219 => 167 | 217 => 193 | 225 => 194 | 224 => 195 | 267 => 196 | 266 => 205 | 314 => 206 | n => n, fun | 9 => 9 | 3 => 3 | 4 => 4 | 5 => 5 | 0 => 0 | 46 => 106 | 146 => 139 | 51 => 138 | n => n, fun | 1 => 0 | n => n⟩
theorem Try.lays138 : Go.Proofs.Lays.n138 Try.prog Try.lays138_ren := {
  mixed := by kernel_rfl
  f138 := Try.func112.trans (congrArg some (by kernel_rfl))
  f143 := Try.func143.trans (congrArg some (by kernel_rfl))
  f195 := Try.func141.trans (congrArg some (by kernel_rfl))
  f217 := Try.func193.trans (congrArg some (by kernel_rfl))
  f218 := Try.func142.trans (congrArg some (by kernel_rfl))
  f219 := Try.func167.trans (congrArg some (by kernel_rfl))
  f224 := Try.func195.trans (congrArg some (by kernel_rfl))
  f225 := Try.func194.trans (congrArg some (by kernel_rfl))
  f266 := Try.func205.trans (congrArg some (by kernel_rfl))
  f267 := Try.func196.trans (congrArg some (by kernel_rfl))
  f314 := Try.func206.trans (congrArg some (by kernel_rfl))
  t0 := Try.underlying0
  a0 := Try.isAgg0
  z0 := Try.sizeOf0
  v0 := Try.zeroValue0
  t3 := Try.underlying3
  a3 := Try.isAgg3
  z3 := Try.sizeOf3
  v3 := Try.zeroValue3
  t4 := Try.underlying4
  a4 := Try.isAgg4
  z4 := Try.sizeOf4
  v4 := Try.zeroValue4
  t5 := Try.underlying5
  a5 := Try.isAgg5
  z5 := Try.sizeOf5
  v5 := Try.zeroValue5
  t9 := Try.underlying9
  a9 := Try.isAgg9
  z9 := Try.sizeOf9
  v9 := Try.zeroValue9
  t46 := Try.underlying106
  a46 := Try.isAgg106
  z46 := Try.sizeOf106
  v46 := Try.zeroValue106
  t51 := Try.underlying138
  a51 := Try.isAgg138
  z51 := Try.sizeOf138
  v51 := Try.zeroValue138
  t146 := Try.underlying139
  a146 := Try.isAgg139
  z146 := Try.sizeOf139
  v146 := Try.zeroValue139
  g1 := by kernel_rfl }
open Go.RowKit Go.Lib in
/-- strings.Count AT A substr OF ONE BYTE ('hp'): "Count counts the number of non-overlapping instances of substr in s.": IT RETURNS 'Lib.countByte s (that byte)'; the world is as it was. ✋ NO CONTRACT HERE YET at an empty substr (utf8.RuneCountInString) or at a longer one (a loop over strings.Index). (LAID: no walk: one application.) -/
theorem Try.strings_Count_one (s : ByteArray) (c : UInt8) (w : World) :
    Calls Try.prog 112 #[.string s, .string ⟨#[c]⟩] w fun e w' => e = .returned (.int .i64 (Lib.countByte s.data.toList c)) ∧ w' = w := Any.strings_Count_one Try.lays138 s c w
def Try.lays99_ren : Go.Shelf.Ren := ⟨fun | 99 => 52 | 206 => 97 | n => n, fun | 9 => 9 | 4 => 4 | 3 => 3 | n => n, fun | n => n⟩
theorem Try.lays99 : Go.Proofs.Lays.n99 Try.prog Try.lays99_ren := {
  mixed := by kernel_rfl
  f99 := Try.func52.trans (congrArg some (by kernel_rfl))
  f206 := Try.func97.trans (congrArg some (by kernel_rfl))
  t3 := Try.underlying3
  a3 := Try.isAgg3
  z3 := Try.sizeOf3
  v3 := Try.zeroValue3
  t4 := Try.underlying4
  a4 := Try.isAgg4
  z4 := Try.sizeOf4
  v4 := Try.zeroValue4
  t9 := Try.underlying9
  a9 := Try.isAgg9
  z9 := Try.sizeOf9
  v9 := Try.zeroValue9 }
open Go.RowKit Go.Lib in
/-- strings.HasPrefix: "HasPrefix reports whether the string s begins with prefix.": IT RETURNS 'Lib.hasPrefix s prefix'; the world is as it was. (LAID: no walk: one application.) -/
theorem Try.strings_HasPrefix (s p : ByteArray) (w : World) :
    Calls Try.prog 52 #[.string s, .string p] w fun e w' => e = .returned (.bool (Lib.hasPrefix s.data.toList p.data.toList)) ∧ w' = w := Any.strings_HasPrefix Try.lays99 s p w
end Go.Proofs


/-
The contract of slices.ContainsFunc with the test of quillref.CodesOf: is there a word that is not less, or begins the new one?
-/
namespace Go.Proofs.Ytapjodbaaejldaa
open Go.RowKit

theorem badPre {s p : List UInt8} : Lib.hasPrefix s p = true ↔ p <+: s := by unfold Lib.hasPrefix; exact List.isPrefixOf_iff_prefix
end Go.Proofs.Ytapjodbaaejldaa


/-
The contract of quillref.CodesOf.
-/
namespace Go.Proofs.Ytapjodbaaejldaa
open Go.RowKit

theorem bits_get : ∀ {n t : Nat} (x : Nat), t < n → (Cm.bits n x).take (t + 1) = (Cm.bits n x).take t ++ [if x / 2 ^ (n - 1 - t) % 2 = 1 then 49 else 48]
  | 0, t, x, h => by omega
  | n + 1, 0, x, _ => by unfold Cm.bits; simp
  | n + 1, t + 1, x, h => by
    have ih := bits_get (n := n) (t := t) x (by omega)
    unfold Cm.bits
    rw [List.take_succ_cons, List.take_succ_cons, ih, List.cons_append, show n + 1 - 1 - (t + 1) = n - 1 - t by omega]
theorem bits_all (n x : Nat) : (Cm.bits n x).take n = Cm.bits n x := List.take_of_length_le (by rw [Cm.bits_len]; omega)
/-- One byte more at a string. -/
theorem mk_app (l : List UInt8) (b : UInt8) : mkS l ++ (⟨#[b]⟩ : ByteArray) = mkS (l ++ [b]) := by
  have h : wd (mkS l ++ (⟨#[b]⟩ : ByteArray)) = wd (mkS (l ++ [b])) := by
    rw [wd_app]
    show lst (mkS l) ++ [b] = lst (mkS (l ++ [b]))
    rw [lst_mk, lst_mk]
  exact wd_inj h
theorem bit_str (v : Nat) (h : v < 2) : strOfNums [48 + (v : Int)] = ⟨#[if v = 1 then 49 else 48]⟩ := by
  rcases (show v = 0 ∨ v = 1 by omega) with rfl | rfl <;> rfl
theorem one_byte' (w : World) (x : Int) (t : TypeId) : ∀ i, i < 1 → ((w.alloc (.cells #[.int .u8 x] t)).drew).cell? ⟨w.heap.size, 0 + i, none⟩ = some (.int .u8 ([x].getD i 0)) := by
  intro i hi
  obtain rfl : i = 0 := by omega
  show (w.alloc (.cells #[.int .u8 x] t)).cell? ⟨w.heap.size, 0, none⟩ = some (.int .u8 x)
  simp
/-- What 'out' holds at place j when the words before place i of length n are made. -/
def outF (l : Nat → Nat) (N n i j : Nat) : List UInt8 := if l j < n ∨ (l j = n ∧ j < i) then Cm.cw l N j else []
theorem OwnL.below {w w' : World} {base : Nat} {v : Value} {L : List (List UInt8)} (h : OwnL w base v L) (hb : Below w.heap.size w w') : OwnL w' base v L := own_of_block h (fun k hk => hb.block k (World.ownsRow.lt h k hk).2)
/-- The memory of CodesOf. -/
def CanW (w wr : World) (l : Nat → Nat) (N n i : Nat) (v : Value) : Prop :=
  ∃ all, OwnL wr (w.heap.size + 1) v all ∧ all.length ≤ 12 * n + i ∧ Cm.Til all n (Cm.cp l N n i) ∧ Cm.cp l N n i ≤ 4096 ∧ wr.rowIs w.heap.size 9 N (fun j => .string (mkS (outF l N n i j))) ∧ Below w.heap.size w wr ∧ w.heap.size + 1 ≤ wr.heap.size
theorem CanW.keep {w wr w' : World} {l : Nat → Nat} {N n i : Nat} {v : Value} (h : CanW w wr l N n i v) (hb : Below wr.heap.size wr w') : CanW w w' l N n i v := by
  obtain ⟨all, h1, h2, h3, h4, h5, h6, h7⟩ := h
  exact ⟨all, h1.below hb, h2, h3, h4, h5.of_block (hb.block _ h5.lt), bl_then h6 hb, Nat.le_trans h7 hb.size⟩
theorem outF_next {l : Nat → Nat} {N n j : Nat} (hj : j < N) : outF l N n N j = outF l N (n + 1) 0 j := by
  unfold outF
  by_cases h : l j < n ∨ (l j = n ∧ j < N)
  · rw [if_pos h, if_pos (by omega)]
  · rw [if_neg h, if_neg (by omega)]
theorem CanW.next {w wr : World} {l : Nat → Nat} {N n : Nat} {v : Value} (h : CanW w wr l N n N v) (hN : N ≤ 12) : CanW w wr l N (n + 1) 0 v := by
  obtain ⟨all, h1, h2, h3, h4, h5, h6, h7⟩ := h
  rw [Cm.cp_next] at h3 h4
  exact ⟨all, h1, by omega, h3.more (by omega), h4, h5.congr fun j hj => by rw [outF_next hj], h6, h7⟩
theorem CanW.pass {w wr : World} {l : Nat → Nat} {N n i : Nat} {v : Value} (h : CanW w wr l N n i v) (hi : l i ≠ n) : CanW w wr l N n (i + 1) v := by
  obtain ⟨all, h1, h2, h3, h4, h5, h6, h7⟩ := h
  have e : Cm.cp l N n (i + 1) = Cm.cp l N n i := Cm.cp_no hi
  refine ⟨all, h1, by omega, by rw [e]; exact h3, by rw [e]; exact h4, h5.congr fun j hj => ?_, h6, h7⟩
  unfold outF
  by_cases hx : l j < n ∨ (l j = n ∧ j < i)
  · rw [if_pos hx, if_pos (by omega)]
  · rw [if_neg hx, if_neg (fun hy => hx (by
      rcases hy with hy | ⟨hy1, hy2⟩
      · exact .inl hy
      · by_cases hji : j = i
        · subst hji; exact absurd hy1 hi
        · exact .inr ⟨hy1, by omega⟩))]
/-- One word is made and taken. -/
theorem CanW.add {w wr : World} {l : Nat → Nat} {N n i X : Nat} {v : Value} {all : List (List UInt8)} (hown : OwnL wr (w.heap.size + 1) v (all ++ [Cm.bits n X])) (h2 : all.length ≤ 12 * n + i) (h3 : Cm.Til all n (Cm.cp l N n i)) (hX : X * 2 ^ (12 - n) = Cm.cp l N n i) (hXn : X < 2 ^ n) (hn : n ≤ 12) (hl : l i = n)
    (h5 : wr.rowIs w.heap.size 9 N (fun j => if j = i then .string (mkS (Cm.bits n X)) else .string (mkS (outF l N n i j)))) (h6 : Below w.heap.size w wr) (h7 : w.heap.size + 1 ≤ wr.heap.size) : CanW w wr l N n (i + 1) v := by
  have e : Cm.cp l N n (i + 1) = Cm.cp l N n i + 2 ^ (12 - n) := Cm.cp_yes hl
  refine ⟨_, hown, ?_, ?_, ?_, h5.congr fun j _ => ?_, h6, h7⟩
  · rw [List.length_append, List.length_singleton]; omega
  · rw [e]; exact h3.add hXn hX
  · have h8 := Nat.mul_le_mul_right (2 ^ (12 - n)) (show X + 1 ≤ 2 ^ n from hXn)
    rw [Cm.pow12 hn, Nat.add_mul, hX, Nat.one_mul] at h8
    rw [e]; exact h8
  · unfold outF
    by_cases hji : j = i
    · rw [if_pos hji, if_pos (.inr ⟨by rw [hji]; exact hl, by omega⟩)]
      unfold Cm.cw Cm.cx
      rw [hji, hl, ← hX, Nat.mul_div_cancel _ (Nat.two_pow_pos _)]
    · rw [if_neg hji]
      by_cases hx : l j < n ∨ (l j = n ∧ j < i)
      · rw [if_pos hx, if_pos (by omega)]
      · rw [if_neg hx, if_neg (by omega)]
end Go.Proofs.Ytapjodbaaejldaa

