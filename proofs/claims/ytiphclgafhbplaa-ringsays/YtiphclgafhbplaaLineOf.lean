/-
The contract of quillref.LineOf.
-/
import Derived.Test.YtiphclgafhbplaaGen
import Derived.Laws.EntriesVeiled
namespace Go.Proofs.Ytiphclgafhbplaa
open Go.RowKit

theorem size_alloc (w : World) (o : Obj) : (w.alloc o).heap.size = w.heap.size + 1 := by simp
theorem row_new (w : World) (v : Value) (t : TypeId) (B : Nat) (h : w.heap.size = B) : (w.alloc (.cells #[v] t)).rowIs B t 1 (fun _ => v) := by
  subst h
  exact World.rowIs_alloc w #[v] t _ fun i hi => by
    obtain rfl : i = 0 := by simp at hi; omega
    rfl
theorem row_made (w : World) (N : Nat) (B : Nat) (h : w.heap.size = B) : (w.alloc (.cells (madeCells #[.int .i64 0] N) 3)).rowIs B 3 N (fun _ => .int .i64 0) := by
  subst h
  exact World.rowIs_made w _ N _
/-- The memory that quillref.LineOf lays for its inner function. -/
theorem gs_start (w : World) (k n N B : Nat) (hN : N = n + 1) (hB : w.heap.size = B) :
    GS ((((((w.alloc (.cells #[.int .i64 (k : Int)] 3)).alloc (.cells #[.int .i64 (n : Int)] 3)).alloc (.cells (madeCells #[.int .i64 0] N) 3)).alloc (.cells #[.slice (some ⟨B + 1 + 1, 0, none⟩) N N] 35)).alloc (.cells #[.slice none 0 0] 33)).alloc
      (.cells #[.func (.func 20) #[] #[.pointer (some ⟨B + 1, 0, none⟩), .pointer (some ⟨B + 1 + 1 + 1, 0, none⟩), .pointer (some ⟨B + 1 + 1 + 1 + 1, 0, none⟩), .pointer (some ⟨B + 1 + 1 + 1 + 1 + 1, 0, none⟩), .pointer (some ⟨B, 0, none⟩)]] 42)) B k n (fun _ => 0) [] := by
  subst hN
  have h1 := row_new w (.int .i64 (k : Int)) 3 B hB
  have z1 := size_alloc w (.cells #[.int .i64 (k : Int)] 3)
  generalize w.alloc (.cells #[.int .i64 (k : Int)] 3) = w1 at *
  have h2 := row_new w1 (.int .i64 (n : Int)) 3 (B + 1) (by omega)
  have z2 := size_alloc w1 (.cells #[.int .i64 (n : Int)] 3)
  have h1 := h1.alloc (.cells #[.int .i64 (n : Int)] 3)
  generalize w1.alloc (.cells #[.int .i64 (n : Int)] 3) = w2 at *
  have h3 := row_made w2 (n + 1) (B + 2) (by omega)
  have z3 := size_alloc w2 (.cells (madeCells #[.int .i64 0] (n + 1)) 3)
  have h1 := h1.alloc (.cells (madeCells #[.int .i64 0] (n + 1)) 3)
  have h2 := h2.alloc (.cells (madeCells #[.int .i64 0] (n + 1)) 3)
  generalize w2.alloc (.cells (madeCells #[.int .i64 0] (n + 1)) 3) = w3 at *
  have h4 := row_new w3 (.slice (some ⟨B + 1 + 1, 0, none⟩) (n + 1) (n + 1)) 35 (B + 3) (by omega)
  have z4 := size_alloc w3 (.cells #[.slice (some ⟨B + 1 + 1, 0, none⟩) (n + 1) (n + 1)] 35)
  have h1 := h1.alloc (.cells #[.slice (some ⟨B + 1 + 1, 0, none⟩) (n + 1) (n + 1)] 35)
  have h2 := h2.alloc (.cells #[.slice (some ⟨B + 1 + 1, 0, none⟩) (n + 1) (n + 1)] 35)
  have h3 := h3.alloc (.cells #[.slice (some ⟨B + 1 + 1, 0, none⟩) (n + 1) (n + 1)] 35)
  generalize w3.alloc (.cells #[.slice (some ⟨B + 1 + 1, 0, none⟩) (n + 1) (n + 1)] 35) = w4 at *
  have h5 := row_new w4 (.slice none 0 0) 33 (B + 4) (by omega)
  have z5 := size_alloc w4 (.cells #[.slice none 0 0] 33)
  have h1 := h1.alloc (.cells #[.slice none 0 0] 33)
  have h2 := h2.alloc (.cells #[.slice none 0 0] 33)
  have h3 := h3.alloc (.cells #[.slice none 0 0] 33)
  have h4 := h4.alloc (.cells #[.slice none 0 0] 33)
  generalize w4.alloc (.cells #[.slice none 0 0] 33) = w5 at *
  refine ⟨h1.alloc _, h2.alloc _, h3.alloc _, h4.alloc _, ⟨_, h5.alloc _, OwnB.zero _ _⟩, ?_⟩
  exact row_new w5 _ 42 (B + 5) (by omega)
set_option maxHeartbeats 1000000 in
theorem lineOf_ok (k n : Nat) (w : World) (h : Rm.Ok k n) :
    Calls Try.prog 13 #[.int .i64 (k : Int), .int .i64 (n : Int)] w fun e w' => e = .returned (.string (sd (Rm.lineD k n))) ∧ Below w.heap.size w w' := by
  have hk1 := h.k1
  have hk8 := h.k8
  have hn1 := h.n1
  have hn5 := h.n5
  have hgl := Rm.gen_line h
  have hll := (Rm.bruijn h).len
  have hfew := h.few
  have hpos : 0 < k ^ n := Nat.pow_pos (by omega)
  obtain ⟨L, hL⟩ : ∃ L, L = Rm.lineD k n := ⟨_, rfl⟩
  rw [← hL] at hgl hll ⊢
  obtain ⟨N, hN⟩ : ∃ N, N = n + 1 := ⟨_, rfl⟩
  have eN : (n : Int) + 1 = (N : Int) := by omega
  have hwN : IntKind.i64.wrap (N : Int) = (N : Int) := i64_of (by omega) (by omega)
  have hmk := fun W : World => run_make_row' (P := Try.prog) 35 3 (.int .i64 0) 8 Try.underlying35 Try.infoInt rfl .i64 .i64 N (by omega) (by omega) W
  have hmf : ∀ (fn : Fn) (first cap : Array Value) (w : World), (Instr.makeFunc fn first cap).run Try.prog w = .ok (.func fn first cap) w := fun _ _ _ _ => rfl
  obtain ⟨B, hB⟩ : ∃ B, B = w.heap.size := ⟨_, rfl⟩
  have hG0 := gs_start w k n N B hN hB.symm
  have hcall := gen_any k n B hk1 hn1 hn5 hk8 n 1 1 [] (fun _ => 0) [] _ (by omega) rfl (by omega) hn1 (by omega) (fun x hx => by simp at hx) hG0 (fun i hi => by simp at hi; subst hi; rfl) (by rw [hgl, hll]; simp; omega)
  rw [hgl, List.nil_append] at hcall
  have hb0 : Below B w ((((((w.alloc (.cells #[.int .i64 (k : Int)] 3)).alloc (.cells #[.int .i64 (n : Int)] 3)).alloc (.cells (madeCells #[.int .i64 0] N) 3)).alloc (.cells #[.slice (some ⟨B + 1 + 1, 0, none⟩) N N] 35)).alloc (.cells #[.slice none 0 0] 33)).alloc
      (.cells #[.func (.func 20) #[] #[.pointer (some ⟨B + 1, 0, none⟩), .pointer (some ⟨B + 1 + 1 + 1, 0, none⟩), .pointer (some ⟨B + 1 + 1 + 1 + 1, 0, none⟩), .pointer (some ⟨B + 1 + 1 + 1 + 1 + 1, 0, none⟩), .pointer (some ⟨B, 0, none⟩)]] 42)) := by
    rw [hB]
    exact bl_then (bl_then (bl_then (bl_then (bl_then (bl_new w _) (bl_new _ _)) (bl_new _ _)) (bl_new _ _)) (bl_new _ _)) (bl_new _ _)
  rw [hB] at hcall hb0
  rw [show ((1 : Nat) : Int) = 1 from rfl, show w.heap.size + 3 = w.heap.size + 1 + 1 + 1 from rfl, show w.heap.size + 4 = w.heap.size + 1 + 1 + 1 + 1 from rfl, show w.heap.size + 5 = w.heap.size + 1 + 1 + 1 + 1 + 1 from rfl] at hcall
  have HB0 := hid hb0
  have HC := hid hcall
  have HLL := hid hll
  have HBB := hid hB
  clear hcall hG0 hN hgl hL h hb0 hll hB
  go_enter Try.func13, Try.ntmps13
  go_wp2_with fail
  with_reducible refine (HC.out).mono ?_
  rintro e w2 ⟨rfl, ⟨a2, hG2, _⟩, hb2⟩
  have HBE := hid (HB0.out.trans hb2)
  clear hb2 HC HB0 hmk
  obtain ⟨v, hv, hov⟩ := hG2.co
  obtain ⟨A, c, hvv, hcl⟩ := hov.cells
  subst hvv
  obtain ⟨b, rfl, _, _, hcell⟩ := hcl (by rw [nums_len, HLL.out]; exact hpos)
  have hco : w2.cell? ⟨w.heap.size + 1 + 1 + 1 + 1, 0, none⟩ = _ := hv.cell (i := 0) (by omega)
  obtain ⟨M, hM⟩ : ∃ M, M = (nums L).length := ⟨_, rfl⟩
  rw [← hM] at hco hcell
  have hcv := run_convert_bytes_arg (P := Try.prog) w2 33 5 Try.underlying33 Try.underlying5 b 0 M c (nums L) hM.symm hcell 9 Try.underlying9
  rw [nums_sd] at hcv
  clear hcl hcell hv hov hG2 hM
  go_wp2
  go_ret
  exact ⟨rfl, HBE.out⟩
end Go.Proofs.Ytiphclgafhbplaa
