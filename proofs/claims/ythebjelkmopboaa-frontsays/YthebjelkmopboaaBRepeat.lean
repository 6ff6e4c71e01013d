
/-
The contract of bytes.Repeat at one byte.
-/
import Derived.Test.YthebjelkmopboaaFrText
import Derived.Test.YthebjelkmopboaaShelfMu
import Derived.Lib.MakeNoZero
import Derived.Laws.Externs
namespace Go.Proofs.Ythebjelkmopboaa
open Go.RowKit

/-- The first m cells of block H hold the byte c; the block has M cells, and may be written. -/
def Many (w : World) (H M : Nat) (c : UInt8) (m : Nat) : Prop :=
  ∃ cur : List Value, w.heap[H]? = some (.cells cur.toArray 5 (0, 0)) ∧ cur.length = M ∧ ∀ j, j < m → cur[j]? = some (bv c)
theorem Many.cell {w : World} {H M m : Nat} {c : UInt8} (h : Many w H M c m) {j : Nat} (hj : j < m) : w.cell? ⟨H, j, none⟩ = some (bv c) := by
  obtain ⟨cur, h1, h2, h3⟩ := h
  rw [cell_of_row _ _ _ _ _ _ h1]
  simpa using h3 j hj
theorem Many.lt {w : World} {H M m : Nat} {c : UInt8} (h : Many w H M c m) : H < w.heap.size := by
  obtain ⟨cur, h1, h2, h3⟩ := h
  obtain ⟨hlt, _⟩ := Array.getElem?_eq_some_iff.1 h1
  exact hlt
theorem splice_many {cur : List Value} {M m k : Nat} {c : UInt8} (hl : cur.length = M) (h : ∀ j, j < m → cur[j]? = some (bv c)) (hk : m + k ≤ M) : ∀ j, j < m + k → (splice cur m (List.replicate k (bv c)))[j]? = some (bv c) := by
  intro j hj
  unfold splice
  have h1 : (cur.take m).length = m := by rw [List.length_take]; omega
  by_cases h2 : j < m
  · rw [List.getElem?_append_left (by omega), List.getElem?_take, if_pos h2]
    exact h j h2
  · rw [List.getElem?_append_right (by omega), h1, List.getElem?_append_left (by rw [List.length_replicate]; omega), List.getElem?_replicate, if_pos (by omega)]
theorem mul_one_ (n : Nat) (hn : n ≤ 200) (w : World) : Calls Try.prog 31 #[.int .u64 1, .int .u64 (n : Int)] w fun e w' => e = .returned (.tuple #[.int .u64 0, .int .u64 (n : Int)]) ∧ w' = w := by
  refine (Try.bits_Mul 1 n (by omega) (by omega) w).mono ?_
  rintro e w' ⟨rfl, rfl⟩
  refine ⟨?_, rfl⟩
  rw [Nat.one_mul, Nat.div_eq_of_lt (by omega), Nat.mod_eq_of_lt (by omega)]
  rfl
theorem copy_first {ops : Array Oper} {rest : List Oper} {o : Oper} {a : Act} {Q : Exit → Act → World → Prop} {w w0 : World} {H M n N B : Nat} {c : UInt8} (hgd : o.guard = none) (d s : Operand)
    (ho : o.op = .call { callee := .builtin .copy, args := #[d, s], argTypes := #[41, 41] })
    (hd : a.eval d = .slice (some ⟨H, 0, none⟩) n n) (hs : a.eval s = .slice (some ⟨N, 0, none⟩) 1 1) (h1 : 1 ≤ n) (hn : n ≤ M) (hM : Many w H M c 0) (hc : w.cell? ⟨N, 0, none⟩ = some (bv c)) (hb : Below B w0 w) (hBH : B ≤ H)
    (h : ∀ w', Many w' H M c 1 → Below B w0 w' → wpList Try.prog ops Q rest (a.put o.dst (.int .i64 1)) w') : wpList Try.prog ops Q (o :: rest) a w := by
  obtain ⟨cur, e1, e2, e3⟩ := hM
  refine wpList_copy_splice hgd d s 41 41 ho 5 Try.underlying41 (by kernel_rfl) _ _ n n 1 1 hd hs H 0 cur 5 e1 [bv c] ?_ (fun _ => ⟨rfl, _, rfl, ?_⟩) (by simp; omega) ?_ B w0 hb hBH ?_
  · exact (Nat.min_eq_left h1).symm
  · intro j v hj
    match j, hj with
    | 0, hj => simp at hj; subst hj; rw [Addr.add_lit]; exact hc
  · intro v hv
    rcases List.mem_singleton.1 hv with rfl
    rfl
  · intro w' g1 g2
    refine h w' ⟨_, g1.out, by rw [length_splice _ _ _ (by simp; omega), e2], ?_⟩ g2
    exact splice_many (m := 0) (k := 1) e2 e3 (by omega)
theorem copy_more {ops : Array Oper} {o : Oper} {a : Act} {K : Act → World → Prop} {Q : Exit → Act → World → Prop} {E : Prop} {w w0 : World} {H M n m k B : Nat} {c : UInt8} (hgd : o.guard = none) (d s : Operand)
    (ho : o.op = .call { callee := .builtin .copy, args := #[d, s], argTypes := #[41, 41] })
    (hd : a.eval d = .slice (some ⟨H, m, none⟩) (n - m) (n - m)) (hs : a.eval s = .slice (some ⟨H, 0, none⟩) m n) (hk : k = min m (n - m)) (hm : m < n) (hn : n ≤ M) (hM : Many w H M c m) (hb : Below B w0 w) (hBH : B ≤ H)
    (h : ∀ w', Many w' H M c (m + k) → Below B w0 w' → K (a.put o.dst (.int .i64 (k : Int))) w') : if Region.wanted o (yielded ops a.tmps) = true then Oper.wp Try.prog o a w K Q else E := by
  have hM' := hM
  obtain ⟨cur, e1, e2, e3⟩ := hM
  refine step_copy1 hgd d s 41 41 ho 5 Try.underlying41 (by kernel_rfl) H m (n - m) (n - m) ⟨H, 0, none⟩ m n hd hs cur 5 e1 (List.replicate k (bv c)) ?_ ?_ (by rw [List.length_replicate]; omega) ?_ ?_
  · rw [List.length_replicate, hk]
  · intro j v hj
    rw [List.getElem?_replicate] at hj
    split at hj
    · injection hj with hj
      subst hj
      rw [Addr.add_lit, Nat.zero_add]
      exact hM'.cell (by omega)
    · cases hj
  · intro v hv
    rw [List.eq_of_mem_replicate hv]
    rfl
  · intro w' g1 g2
    have := h w' ⟨_, g1.out, by rw [length_splice _ _ _ (by rw [List.length_replicate]; omega), e2], splice_many e2 e3 (by omega)⟩ (hb.grown g2.out (by have := hb.size; have h2 := hM'.lt; omega) fun k hk => by cases hk; exact hBH)
    rw [List.length_replicate]
    exact this
set_option maxHeartbeats 1000000 in
theorem brepeat_any {c : UInt8} {N n : Nat} (w : World) (hc : w.cell? ⟨N, 0, none⟩ = some (bv c)) (h1 : 1 ≤ n) (hn : n ≤ 200) :
    Calls Try.prog 28 #[.slice (some ⟨N, 0, none⟩) 1 1, .int .i64 (n : Int)] w fun e w' => (∃ H, e = .returned (.slice (some ⟨H, 0, none⟩) n n) ∧ ∀ j, j < n → w'.cell? ⟨H, j, none⟩ = some (bv c)) ∧ Below w.heap.size w w' := by
  have hmul := mul_one_ n hn
  obtain ⟨cs, hrun, hle, hmax⟩ := Lib.run_makeNoZero (P := Try.prog) w #[3] 41 5 Try.underlying41 n (by omega)
  have hcall : (callFunc 39 #[.int .i64 (n : Int)]).run Try.prog w = .ok (.value (.slice (some ⟨w.heap.size, 0, none⟩) n cs.size)) (w.drew.drew.alloc (.cells cs 5)) := by
    rw [run_callFunc_extern Try.func39 (by kernel_rfl) (by kernel_rfl) (by kernel_rfl) (e := Extern.BytealgMakeNoZero.makeNoZero #[3] #[41]) (by kernel_rfl), hrun]
    rfl
  have hM : Many (w.drew.drew.alloc (.cells cs 5)) w.heap.size cs.size c 0 := ⟨cs.toList, heap_alloc_new w.drew.drew _, by simp, fun j hj => by omega⟩
  have hB : Below w.heap.size w (w.drew.drew.alloc (.cells cs 5)) := ((Below.refl _ _).drew.drew).alloc (Nat.le_refl _) _
  have hNlt := World.block_lt_of_cell? _ _ hc
  have hcN : (w.drew.drew.alloc (.cells cs 5)).cell? ⟨N, 0, none⟩ = some (bv c) := (hB.cell (p := ⟨N, 0, none⟩) hNlt).trans hc
  generalize w.drew.drew.alloc (.cells cs 5) = w0 at hcall hM hB hcN
  generalize hH : w.heap.size = H at *
  generalize cs.size = M at *
  have HC := hid hcN
  have HM := hid hM
  have HB := hid hB
  have hn0 : ((n : Int) == 0) = false := beq_eq_false_iff_ne.2 (by omega)
  have hd0 : decide ((n : Int) < 0) = false := decide_eq_false (by omega)
  have hu64 : IntKind.u64.wrap (n : Int) = (n : Int) := by rw [IntKind.wrap_u64]; omega
  have hi64 : IntKind.i64.wrap (n : Int) = (n : Int) := IntWalk.i64_in _ (by omega)
  have hdb : decide ((9223372036854775807 : Int) < (n : Int)) = false := decide_eq_false (by omega)
  have hdc : decide ((8192 : Int) < (n : Int)) = false := decide_eq_false (by omega)
  have hnM : (n : Int) ≤ (M : Int) := by omega
  clear hrun hmax hM hB hc hcN
  go_enter Try.func28, Try.ntmps28
  go_wp2_with fail
  with_reducible refine (hmul _).mono ?_
  rintro e w1 ⟨rfl, rfl⟩
  go_wp2_with (
    (with_reducible refine copy_first rfl _ _ rfl (by simp [Act.eval]) (by simp [Act.eval]) h1 hle HM.out HC.out HB.out (Nat.le_refl _) ?_; intro w5 g1 g2; have HM5 := hid g1; have HB5 := hid g2; clear g1 g2))
  clear hmul hcall HC HM HB
  go_loopw [10] (fun x wr => ∃ m : Nat, 1 ≤ m ∧ m ≤ n ∧ x = .int .i64 (m : Int) ∧ Hid (Many wr H M c m) ∧ Hid (Below H w1 wr)) (fun x _ => n - (intOf x).toNat)
  case atStart => exact ⟨1, by omega, h1, rfl, HM5, HB5⟩
  case round =>
    clear HM5 HB5
    obtain ⟨m, hm1, hmn, rfl, HM, HB⟩ := hrel
    by_cases hlt : m < n
    · have hlt' : (m : Int) < (n : Int) := by omega
      have emin : min (m : Int) (n : Int) = (m : Int) := by omega
      have hne : ¬ (n = m) := by omega
      have hle1 : (m : Int) ≤ (n : Int) := by omega
      obtain ⟨k, hk⟩ : ∃ k, k = min m (n - m) := ⟨_, rfl⟩
      obtain ⟨p, hp⟩ : ∃ p, p = m + k := ⟨_, rfl⟩
      have ep : (m : Int) + (k : Int) = (p : Int) := by omega
      have hpn : p ≤ n := by omega
      have hmp : m < p := by omega
      have hpw : IntKind.i64.wrap (p : Int) = (p : Int) := IntWalk.i64_in _ (by omega)
      have HP := hid hp
      have HK := hid hk
      clear hp hk
      go_wp2
      go_region_law (refine copy_more (w0 := w1) (B := H) (k := k) rfl _ _ rfl (by simp [Act.eval, Act.put]) (by simp [Act.eval, Act.put]) HK.out hlt hle (HM.out) (bl_drewN HB.out 1) (Nat.le_refl _) ?_; intro w6 g1 g2; have HM6 := hid g1; have HB6 := hid g2; clear g1 g2)
      rw [← HP.out] at HM6
      simp only [List.getElem_toArray, List.getElem_cons_succ, List.getElem_cons_zero, Act.put, List.setIfInBounds_toArray, List.set_cons_zero, List.set_cons_succ]
      go_wp2
      go_roundw
      case measure => simp [intOf]; omega
      case rel => exact ⟨p, by omega, hpn, by go_num, HM6, HB6⟩
    · have hd : decide ((m : Int) < (n : Int)) = false := decide_eq_false (by omega)
      obtain rfl : n = m := by omega
      go_wp2
      go_ret
      exact ⟨⟨H, rfl, fun j hj => HM.out.cell hj⟩, HB.out⟩
end Go.Proofs.Ythebjelkmopboaa
