
/-
Rows of words of the program's own: appending one, sorting them, striking out what stands twice.
-/
import Derived.Test.YtapjodbaaejldaaLst
import Derived.Test.YtapjodbaaejldaaMathAll
import Derived.Sort.OwnSorted
namespace Go.Proofs.Ytapjodbaaejldaa
open Go.RowKit

theorem enc_mk (l : List UInt8) : Go.Proofs.encStr l = .string (mkS l) := rfl
theorem enc_lst (s : ByteArray) : Go.Proofs.encStr (lst s) = .string s := by rw [enc_mk, mk_lst]
/-- v is a slice of the call's own that holds the words N. -/
def OwnL (w : World) (base : Nat) (v : Value) (N : List (List UInt8)) : Prop := w.ownsRow base 9 1 v N.length (N.map Go.Proofs.encStr)
theorem OwnL.zero (w : World) (base : Nat) : OwnL w base (.slice none 0 0) [] := World.ownsRow_nil w base _ 1
theorem OwnL.drewN {w : World} {base : Nat} {v : Value} {L : List (List UInt8)} (h : OwnL w base v L) (d : Nat) : OwnL (w.drewN d) base v L := h
theorem Try.infoStr' : (Try.prog.info? 9).map (fun i => (i.zero, i.size, i.bytes)) = some (some (.string ⟨#[]⟩), 1, 16) := by kernel_rfl
theorem app_lst {ops : Array Oper} {rest : List Oper} {o : Oper} {a : Act} {Q : Exit → Act → World → Prop} {wr : World} {N : List (List UInt8)} {x : ByteArray} {v : Value} {base : Nat} (hgd : o.guard = none) (s z : Operand)
    (ho : o.op = .call { callee := .builtin .append, args := #[s, z], argTypes := #[57, 57] })
    (hs : a.eval s = v) (hown : OwnL wr base v N) (M : Nat) (hM : wr.heap.size = M) (hx : a.eval z = .slice (some ⟨M, 0, none⟩) 1 1)
    (hbase : base ≤ M) (hlen : N.length < 1000000)
    (h : ∀ v' w', OwnL w' base v' (N ++ [lst x]) → Below base wr w' → wpList Try.prog ops Q rest (a.put o.dst v') w') :
    wpList Try.prog ops Q (o :: rest) a (wr.alloc (.cells #[.string x] 9)) := by
  subst hM
  obtain ⟨i0, hi, hz0, hz1, hz2⟩ := info_parts Try.infoStr'
  refine wpList_append_own _ hgd s z 57 ho base 9 i0 (.string ⟨#[]⟩) 1 16 Try.underlying57 hi hz0 hz1 hz2 rfl (by decide) v _ _ hs (World.ownsRow.alloc hown _) ⟨wr.heap.size, 0, none⟩ 1 1 [.string x] hx rfl ?_ ?_ ?_ ?_ ?_ ?_
  · intro j u hj
    match j, hj with
    | 0, hj => simp at hj; subst hj; simp [Addr.add]
  · intro u hu; simp at hu; subst hu; rfl
  · unfold maxLen; omega
  · omega
  · simp; omega
  · intro v' w' h1 h2 _
    refine h v' w' ?_ ?_
    · unfold OwnL
      rw [List.map_append, List.length_append]
      have e : [lst x].map Go.Proofs.encStr = [.string x] := by rw [List.map_singleton, enc_lst]
      rw [e]
      exact h1
    · have hb : Below base wr (wr.alloc (.cells #[.string x] 9)) := (Below.refl _ _).alloc hbase _
      exact hb.grown h2 (by simp; omega) fun k hk => ((World.ownsRow.lt hown k hk).1)
/-- The words in order. -/
def srt (L : List (List UInt8)) : List (List UInt8) := L.mergeSort fun x y => decide (x ≤ y)
theorem srt_perm (L : List (List UInt8)) : (srt L).Perm L := List.mergeSort_perm _ _
theorem srt_len (L : List (List UInt8)) : (srt L).length = L.length := (srt_perm L).length_eq
theorem srt_up (L : List (List UInt8)) : (srt L).Pairwise fun a b => ¬ b < a := by
  have hs := List.pairwise_mergeSort (le := fun x y : (List UInt8) => decide (x ≤ y)) (fun a b c h1 h2 => decide_eq_true (List.le_trans (of_decide_eq_true h1) (of_decide_eq_true h2))) (fun a b => by simp; exact List.le_total a b) L
  exact hs.imp fun h => of_decide_eq_true h
/-- The first n cells at A hold the words g 0, g 1, .. -/
def LRow (w : World) (A : Option Addr) (n : Nat) (g : Nat → List UInt8) : Prop :=
  ∀ k, k < n → ∃ b o, A = some ⟨b, o, none⟩ ∧ b < w.heap.size ∧ w.cell? ⟨b, o + k, none⟩ = some (.string (mkS (g k)))
theorem LRow.keep {w w' : World} {A : Option Addr} {n : Nat} {g : Nat → List UInt8} (h : LRow w A n g) (hb : Below w.heap.size w w') : LRow w' A n g := by
  intro k hk
  obtain ⟨b, o, rfl, hlt, hc⟩ := h k hk
  exact ⟨b, o, rfl, Nat.lt_of_lt_of_le hlt hb.size, (hb.cell (p := ⟨b, o + k, none⟩) hlt).trans hc⟩
theorem OwnL.row {w : World} {base : Nat} {v : Value} {N : List (List UInt8)} (h : OwnL w base v N) : ∃ A c, v = .slice A N.length c ∧ LRow w A N.length (fun k => N.getD k []) := by
  have hcell := fun g cap (e : v = .slice (some ⟨g, 0, none⟩) N.length cap) (k : Nat) (hk : k < N.length) => World.ownsRow.cellAt (e ▸ h) k (by omega)
  have hlt := World.ownsRow.lt h
  rcases h.2 with ⟨rfl, h0⟩ | ⟨g, cap, cur, rfl, _⟩
  · exact ⟨none, 0, by rw [h0], fun k hk => by omega⟩
  · refine ⟨some ⟨g, 0, none⟩, cap, rfl, fun k hk => ⟨g, 0, rfl, (hlt g rfl).2, ?_⟩⟩
    rw [Nat.zero_add, hcell g cap rfl k hk, ← enc_mk]
    simp [List.getElem?_eq_getElem hk, List.getD_eq_getElem?_getD]

end Go.Proofs.Ytapjodbaaejldaa
