
/-
The contract of edit.Undo.
-/
import Derived.Test.YtphbloibldljjaaEdAp
namespace Go.Proofs.Ytphbloibldljjaa
open Go.RowKit

theorem EvBlk.grown {w w' : World} {b : Nat} {x : Es.Ev} {row : Option Nat} (h : EvBlk w b x) (hg : w.grownBy w' row) (hr : some b ≠ row) : EvBlk w' b x := by
  obtain ⟨hlt, _⟩ := Array.getElem?_eq_some_iff.1 h
  exact (hg.block b hlt hr).trans h
theorem EvBlk.alloc {w : World} {b : Nat} {x : Es.Ev} (h : EvBlk w b x) (o : Obj) : EvBlk (w.alloc o) b x := by
  obtain ⟨hlt, _⟩ := Array.getElem?_eq_some_iff.1 h
  exact (Below.heap_alloc w o b hlt).trans h
end Go.Proofs.Ytphbloibldljjaa
