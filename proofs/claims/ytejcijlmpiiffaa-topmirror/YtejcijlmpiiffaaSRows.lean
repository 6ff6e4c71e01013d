
/-
Strings as lists of bytes, their order; rows of strings: read ones, and ones of the program's own.
-/
import Derived.Test.YtejcijlmpiiffaaApp
import Derived.Test.YtejcijlmpiiffaaMathAll
import Derived.Sort.Walk0
import Derived.Laws.Cover1
import Derived.Deep.RegionHeld3
namespace Go.Proofs.Ytejcijlmpiiffaa
open Go.RowKit

/-- The bytes of a string. -/
def wd (s : ByteArray) : (List UInt8) := s.data.toList
theorem wd_len (s : ByteArray) : (wd s).length = s.size := by unfold wd; cases s; rfl
theorem bn_wd (s : ByteArray) (i : Nat) : Lm.bn (wd s) i = (byt s i).toNat := rfl
theorem wd_inj {a b : ByteArray} (h : wd a = wd b) : a = b := by
  unfold wd at h
  cases a; cases b
  simp at h
  rw [h]
theorem wd_app (a b : ByteArray) : wd (a ++ b) = wd a ++ wd b := by
  unfold wd
  rw [ByteArray.data_append, Array.toList_append]
theorem wd_drop (s : ByteArray) (k : Nat) : wd (s.extract k s.size) = (wd s).drop k := by
  unfold wd
  rw [ByteArray.data_extract, Array.toList_extract, List.extract_eq_take_drop]
  refine List.take_of_length_le ?_
  simp
theorem wd_take (s : ByteArray) (k : Nat) : wd (s.extract 0 k) = (wd s).take k := by
  unfold wd
  rw [ByteArray.data_extract, Array.toList_extract, List.extract_eq_take_drop]
  simp
theorem wd_toList (s : ByteArray) : s.toList = wd s := ByteArray.toList_eq s
theorem wd_mk (l : List UInt8) : wd ⟨l.toArray⟩ = l := by unfold wd; simp
/-- How the walk writes the order of two strings. -/
theorem less_yes {a b : ByteArray} (h : wd a < wd b) : Op.bytesLess a.toList b.toList = true := by
  rw [bytesLess_eq, wd_toList, wd_toList]; exact decide_eq_true h
theorem less_no {a b : ByteArray} (h : ¬ wd a < wd b) : Op.bytesLess a.toList b.toList = false := by
  rw [bytesLess_eq, wd_toList, wd_toList]; exact decide_eq_false h
theorem same_yes {a b : ByteArray} (h : a = b) : (a.toList == b.toList) = true := by rw [h]; simp
theorem same_no {a b : ByteArray} (h : a ≠ b) : (a.toList == b.toList) = false := beq_eq_false_iff_ne.2 fun e => h (list_eq.1 e)
/-- The word of s is a Lyndon word. -/
def LynS (s : ByteArray) : Prop := Lm.Lyn (wd s)

theorem getD_lt {α : Type} {l : List α} {i : Nat} {d : α} (h : i < l.length) : l.getD i d = l[i] := by simp [List.getD_eq_getElem?_getD, List.getElem?_eq_getElem h]
theorem own_of_block {w w' : World} {base n : Nat} {e : TypeId} {size : Nat} {v : Value} {xs : List Value} (h : w.ownsRow base e size v n xs) (hb : ∀ k, v.ownBlock = some k → w'.heap[k]? = w.heap[k]?) : w'.ownsRow base e size v n xs := by
  refine ⟨h.1, ?_⟩
  rcases h.2 with hn | ⟨g, cap, cur, rfl, h1, h2, rest⟩
  · exact .inl hn
  · exact .inr ⟨g, cap, cur, rfl, h1, by rw [hb g rfl]; exact h2, rest⟩

/-- The first n cells at A hold the strings g 0, g 1, ..; they lie in blocks that are there. -/
def SRow (w : World) (A : Option Addr) (n : Nat) (g : Nat → ByteArray) : Prop :=
  ∀ k, k < n → ∃ b o, A = some ⟨b, o, none⟩ ∧ b < w.heap.size ∧ w.cell? ⟨b, o + k, none⟩ = some (.string (g k))
theorem SRow.keep {w w' : World} {A : Option Addr} {n : Nat} {g : Nat → ByteArray} (h : SRow w A n g) (hb : Below w.heap.size w w') : SRow w' A n g := by
  intro k hk
  obtain ⟨b, o, rfl, hlt, hc⟩ := h k hk
  exact ⟨b, o, rfl, Nat.lt_of_lt_of_le hlt hb.size, (hb.cell (p := ⟨b, o + k, none⟩) hlt).trans hc⟩
theorem SRow.fewer {w : World} {A : Option Addr} {n m : Nat} {g : Nat → ByteArray} (h : SRow w A n g) (hm : m ≤ n) : SRow w A m g := fun k hk => h k (by omega)
theorem SRow.congr {w : World} {A : Option Addr} {n : Nat} {g g' : Nat → ByteArray} (h : SRow w A n g) (e : ∀ k, k < n → g k = g' k) : SRow w A n g' := by
  intro k hk
  rw [← e k hk]
  exact h k hk

/-- v is a slice of the call's own that holds the strings N. -/
def OwnS (w : World) (base : Nat) (v : Value) (N : List ByteArray) : Prop := w.ownsRow base 9 1 v N.length (N.map Value.string)
theorem OwnS.zero (w : World) (base : Nat) : OwnS w base (.slice none 0 0) [] := World.ownsRow_nil w base _ 1
theorem OwnS.drewN {w : World} {base : Nat} {v : Value} {L : List ByteArray} (h : OwnS w base v L) (d : Nat) : OwnS (w.drewN d) base v L := h
theorem OwnS.below {w w' : World} {base : Nat} {v : Value} {L : List ByteArray} (h : OwnS w base v L) (hb : Below w.heap.size w w') : OwnS w' base v L := own_of_block h (fun k hk => hb.block k (World.ownsRow.lt h k hk).2)
theorem Try.infoStr : (Try.prog.info? 9).map (fun i => (i.zero, i.size, i.bytes)) = some (some (.string ⟨#[]⟩), 1, 16) := by kernel_rfl
theorem app_str {ops : Array Oper} {rest : List Oper} {o : Oper} {a : Act} {Q : Exit → Act → World → Prop} {wr : World} {N : List ByteArray} {x : ByteArray} {v : Value} {base : Nat} (hgd : o.guard = none) (s z : Operand)
    (ho : o.op = .call { callee := .builtin .append, args := #[s, z], argTypes := #[50, 50] })
    (hs : a.eval s = v) (hown : OwnS wr base v N) (M : Nat) (hM : wr.heap.size = M) (hx : a.eval z = .slice (some ⟨M, 0, none⟩) 1 1)
    (hbase : base ≤ M) (hlen : N.length < 1000000)
    (h : ∀ v' w', OwnS w' base v' (N ++ [x]) → Below base wr w' → wpList Try.prog ops Q rest (a.put o.dst v') w') :
    wpList Try.prog ops Q (o :: rest) a (wr.alloc (.cells #[.string x] 9)) := by
  subst hM
  obtain ⟨i0, hi, hz0, hz1, hz2⟩ := info_parts Try.infoStr
  refine wpList_append_own _ hgd s z 50 ho base 9 i0 (.string ⟨#[]⟩) 1 16 Try.underlying50 hi hz0 hz1 hz2 rfl (by decide) v _ _ hs (World.ownsRow.alloc hown _) ⟨wr.heap.size, 0, none⟩ 1 1 [.string x] hx rfl ?_ ?_ ?_ ?_ ?_ ?_
  · intro j u hj
    match j, hj with
    | 0, hj => simp at hj; subst hj; simp [Addr.add]
  · intro u hu; simp at hu; subst hu; rfl
  · unfold maxLen; omega
  · omega
  · simp; omega
  · intro v' w' h1 h2 _
    refine h v' w' ?_ ?_
    · unfold OwnS
      rw [List.map_append, List.length_append]
      exact h1
    · have hb : Below base wr (wr.alloc (.cells #[.string x] 9)) := (Below.refl _ _).alloc hbase _
      exact hb.grown h2 (by simp; omega) fun k hk => ((World.ownsRow.lt hown k hk).1)
theorem OwnS.row {w : World} {base : Nat} {v : Value} {N : List ByteArray} (h : OwnS w base v N) : ∃ A c, v = .slice A N.length c ∧ N.length ≤ c ∧ SRow w A N.length (fun k => N.getD k ByteArray.empty) := by
  have hcell := fun g cap (e : v = .slice (some ⟨g, 0, none⟩) N.length cap) (k : Nat) (hk : k < N.length) => World.ownsRow.cellAt (e ▸ h) k (by omega)
  have hlt := World.ownsRow.lt h
  rcases h.2 with ⟨rfl, h0⟩ | ⟨g, cap, cur, rfl, h1, h2, h3, h4, h5, h6⟩
  · exact ⟨none, 0, by rw [h0], by omega, fun k hk => by omega⟩
  · refine ⟨some ⟨g, 0, none⟩, cap, rfl, by omega, fun k hk => ⟨g, 0, rfl, (hlt g rfl).2, ?_⟩⟩
    rw [Nat.zero_add, hcell g cap rfl k hk]
    simp only [List.getElem?_map]
    rw [List.getElem?_eq_getElem hk, getD_lt hk]
    rfl
end Go.Proofs.Ytejcijlmpiiffaa
