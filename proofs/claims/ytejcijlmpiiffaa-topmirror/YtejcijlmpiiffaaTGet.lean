
/-
The contracts of turn.get, turn.Get and turn.Count.
-/
import Derived.Test.YtejcijlmpiiffaaTStep
import Derived.Deep.WholeRow
namespace Go.Proofs.Ytejcijlmpiiffaa
open Go.RowKit

def lesL (s : ByteArray) : List Value := (List.range 256).map fun b => Value.int .i64 (lsN s b : Int)
theorem range_keep {w w' : World} {N M : Nat} {cs : List Value} (h : w.rangeAt N 0 cs) (hb : Below M w w') (hN : N < M) : w'.rangeAt N 0 cs :=
  fun j v hv => (hb.cell (p := ⟨N, 0 + j, none⟩) hN).trans (h j v hv)
theorem range_keep2 {w w' : World} {N M : Nat} {cs : List Value} (hb : Below M w w') (h : w.rangeAt N 0 cs) (hN : N < M) : w'.rangeAt N 0 cs := range_keep h hb hN
theorem range_set {w w' : World} {N bl i : Nat} {v : Value} {cs : List Value} (h : w.rangeAt N 0 cs) (hw : w' = w.setCell ⟨bl, i, none⟩ v) (hN : N ≠ bl) : w'.rangeAt N 0 cs := by
  subst hw
  exact fun j u hu => (World.cell?_of_block (a := ⟨N, 0 + j, none⟩) (Below.heap_setCell w ⟨bl, i, none⟩ v N hN)).trans (h j u hu)
theorem lesL_len (s : ByteArray) : (lesL s).length = 256 := by unfold lesL; simp
/-- What is written when the bytes are stored from behind down to k. -/
def backG (g : Nat → UInt8) (k j : Nat) : Int := if k ≤ j then ((g j).toNat : Int) else 0
theorem back_store {w wr : World} {g : Nat → UInt8} {b B n k : Nat} {t : TypeId} {v : Int} (hrow : wr.rowIs b t n (fun j => .int .u8 (backG g (k + 1) j))) (hbel : Below B w wr) (hB : B ≤ b) (hv : v = ((g k).toNat : Int)) :
    (wr.setCell ⟨b, k, none⟩ (.int .u8 v)).rowIs b t n (fun j => .int .u8 (backG g k j)) ∧ Below B w (wr.setCell ⟨b, k, none⟩ (.int .u8 v)) := by
  refine ⟨(World.rowIs.set hrow k _).congr fun j _ => ?_, hbel.setCell hB _⟩
  unfold backG
  by_cases h : j = k
  · rw [if_pos h, if_pos (by omega), hv, h]
  · rw [if_neg h]
    by_cases h2 : k + 1 ≤ j
    · rw [if_pos h2, if_pos (by omega)]
    · rw [if_neg h2, if_neg (by omega)]
theorem conv_back {w : World} {b n : Nat} {g : Nat → UInt8} (h : w.rowIs b 5 n (fun j => .int .u8 (backG g 0 j))) :
    ∀ i, i < n → w.cell? ⟨b, 0 + i, none⟩ = some (.int .u8 (((List.range n).map fun k => ((g k).toNat : Int)).getD i 0)) := by
  intro i hi
  rw [Nat.zero_add, h.cell hi, List.getD_eq_getElem?_getD, List.getElem?_map, List.getElem?_range hi]
  rfl
/-- The byte that the way back tells at place k. -/
def gtB (t : ByteArray) (a k : Nat) : UInt8 := (lst t).getD (Tm.lf (lst t) a (t.size - 1 - k)) 0
theorem gtB_lst (t : ByteArray) (a : Nat) : lst (strN t.size (gtB t a)) = Tm.gt (lst t) a := by
  rw [strN_lst]
  unfold Tm.gt gtB
  rw [lst_len]
theorem lst_inj {a b : ByteArray} (h : lst a = lst b) : a = b := by
  cases a; cases b
  unfold lst at h
  simp at h
  rw [h]
/-- The word that turn.get tells. -/
def gtS (t : ByteArray) (a : Nat) : ByteArray := strN t.size (gtB t a)
theorem gtS_lst (t : ByteArray) (a : Nat) : lst (gtS t a) = Tm.gt (lst t) a := gtB_lst t a
theorem gtS_size (t : ByteArray) (a : Nat) : (gtS t a).size = t.size := strN_size _ _
end Go.Proofs.Ytejcijlmpiiffaa
