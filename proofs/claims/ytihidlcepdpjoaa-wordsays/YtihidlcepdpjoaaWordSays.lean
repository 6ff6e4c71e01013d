/-
The walk of quilllaw.WordSays: it returns true for every string.
-/
import Derived.Test.YtihidlcepdpjoaaEqual
import Derived.Test.YtihidlcepdpjoaaRootOf
namespace Go.Proofs.Ytihidlcepdpjoaa
open Go.RowKit

theorem alike_any {A1 A2 : Option Addr} {n m c1 c2 : Nat} {g1 g2 : Nat → Int} {w : World} (h1 : IRow w A1 n g1) (h2 : IRow w A2 m g2) (hn : n ≤ maxLen) (hm : m ≤ maxLen) :
    Calls Try.prog 17 #[.slice A1 n c1, .slice A2 m c2] w fun e w' => e = .returned (.bool (eqB n m g1 g2)) ∧ Drew w w' := by
  have H1 := hid h1
  have H2 := hid h2
  clear h1 h2
  go_enter Try.func17, Try.ntmps17
  go_wp2_with fail
  with_reducible refine (equal_any H1.out H2.out hn hm).mono ?_
  rintro e w1 ⟨rfl, hd⟩
  have HD := hid hd
  clear hd
  go_wp2
  go_ret
  exact ⟨rfl, HD.out⟩

theorem new_cell (w : World) (v : Value) (t : TypeId) : (w.alloc (.cells #[v] t)).cell? ⟨w.heap.size, 0, none⟩ = some v := by simp

theorem wordSays_large (s : ByteArray) (w : World) (hs : 200 < s.size) :
    Calls Try.prog 4 #[.string s] w fun e w' => e = .returned (.bool true) ∧ Below w.heap.size w w' := by
  go_enter Try.func4, Try.ntmps4
  go_wp2_with fail
  with_reducible refine (Borders_large s _ hs).mono ?_
  rintro e w1 ⟨rfl, rfl⟩
  go_wp2_with fail
  with_reducible refine (Periods_large s _ hs).mono ?_
  rintro e w1 ⟨rfl, rfl⟩
  go_wp2_with fail
  with_reducible refine (Root_large s _ hs).mono ?_
  rintro e w1 ⟨rfl, rfl⟩
  go_wp2_with fail
  with_reducible refine (long_large s _ _ (new_cell _ _ _) hs).mono ?_
  rintro e w1 ⟨rfl, rfl⟩
  go_wp2_with fail
  with_reducible refine (check_large s _ hs).mono ?_
  rintro e w1 ⟨rfl, rfl⟩
  go_wp2
  go_ret
  exact ⟨rfl, (Below.refl _ _).alloc (Nat.le_refl _) _⟩

set_option maxHeartbeats 1000000 in
theorem wordSays_ok (s : ByteArray) (w : World) (hs : s.size ≤ 200) :
    Calls Try.prog 4 #[.string s] w fun e w' => e = .returned (.bool true) ∧ Below w.heap.size w w' := by
  have hsm : s.size ≤ maxLen := by unfold maxLen; omega
  have hpl : (perL s s.size).length ≤ maxLen := by have := perL_len s s.size; unfold maxLen; omega
  obtain ⟨pl, hpl0⟩ : ∃ pl, pl = perL s s.size := ⟨_, rfl⟩
  have HP := hid hpl0
  rw [← hpl0] at hpl
  clear hpl0
  go_enter Try.func4, Try.ntmps4
  go_wp2_with fail
  with_reducible refine (Borders_ok s _ hs).mono ?_
  rintro e w1 ⟨A1, c1, rfl, hr1, hb1⟩
  have R1 := hid hr1
  clear hr1
  go_wp2_with fail
  with_reducible refine (Periods_ok s _ hs).mono ?_
  rw [← HP.out]
  rintro e w2 ⟨A2, c2, rfl, hr2, hb2⟩
  have R1' := hid (R1.out.keep hb2)
  have R2 := hid hr2
  clear hr2 R1
  go_wp2_with fail
  with_reducible refine (Root_any s _ hs).mono ?_
  rintro e w3 ⟨rfl, hb3⟩
  go_wp2_with fail
  with_reducible refine (long_ok s _ _ (new_cell _ _ _) hs).mono ?_
  rintro e w4 ⟨rfl, rfl⟩
  go_wp2_with fail
  with_reducible refine (check_ok s _ hs).mono ?_
  rintro e w4 ⟨rfl, rfl⟩
  go_wp2_with fail
  with_reducible refine (rootOf_all s _ hs).mono ?_
  rintro e w4 ⟨rfl, hb4⟩
  go_wp2_with fail
  with_reducible refine (bordersOf_any s _ hs).mono ?_
  rintro e w5 ⟨A5, c5, rfl, hr5, hb5⟩
  have hb35 : Below w3.heap.size w3 w5 := bl_then (bl_then (bl_new w3 _) hb4) hb5
  have hA : eqB s.size s.size (fun k => (Wm.lb (byt s) (k + 1) : Int)) (fun k => (Wm.lb (byt s) (k + 1) : Int)) = true := eqB_true.2 ⟨rfl, fun _ _ => rfl⟩
  have R1'' := hid ((R1'.out.keep hb3).keep hb35)
  have R2' := hid ((R2.out.keep hb3).keep hb35)
  have R5 := hid hr5
  clear hr5 R1' R2
  go_wp2_with fail
  with_reducible refine (alike_any R1''.out R5.out hsm hsm).mono ?_
  rw [hA]
  rintro e w6 ⟨rfl, hd6⟩
  have hb36 : Below w3.heap.size w3 w6 := hb35.trans (hd6.below _)
  have R2'' := hid (R2'.out.keep (hd6.below _))
  clear R2' R5 R1'' hb35 hb4 hb5 hd6 hA
  go_wp2_with fail
  with_reducible refine (periodsOf_any s _ hs).mono ?_
  rw [← HP.out]
  rintro e w7 ⟨A7, c7, rfl, hr7, hb7⟩
  have R3 := hid (R2''.out.keep hb7)
  have R7 := hid hr7
  clear hr7 R2''
  have hA : eqB pl.length pl.length (fun k => pl.getD k 0) (fun k => pl.getD k 0) = true := eqB_true.2 ⟨rfl, fun _ _ => rfl⟩
  go_wp2_with fail
  with_reducible refine (alike_any R3.out R7.out hpl hpl).mono ?_
  rw [hA]
  rintro e w8 ⟨rfl, hd8⟩
  have hfin := hid (bl_then (bl_then (bl_then (bl_then hb1 hb2) hb3) hb36) (hb7.trans (hd8.below _)))
  clear hd8 hA R3 R7 hb36 hb7 hb1 hb2 hb3
  go_wp2
  go_ret
  exact ⟨rfl, hfin.out⟩

theorem wordSays_walk (s : ByteArray) (_ : s.size ≤ maxLen) (w : World) :
    Calls Try.prog 4 #[.string s] w fun e w' => e = .returned (.bool true) ∧ Below w.heap.size w w' := by
  by_cases hs : s.size ≤ 200
  · exact wordSays_ok s w hs
  · exact wordSays_large s w (by omega)
end Go.Proofs.Ytihidlcepdpjoaa
