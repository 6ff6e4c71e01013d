/-
The contracts of (*strings.Replacer).buildOnce, (*sync.Once).doSlow and Do at a new Replacer.
-/
import Derived.Test.YtpjhmmoncbghdaaRepBuild
import Derived.Test.YtpjhmmoncbghdaaOnce
import Derived.Maps.AppendAt
namespace Go.Proofs.Ytpjhmmoncbghdaa
open Go.RowKit

def Tab (w : World) (R : Nat) : Prop := ∀ b : UInt8, w.cell? ⟨R, b.toNat, none⟩ = some (.int .u8 ((flip1 b).toNat : Int))
theorem Tab.other {w : World} {R : Nat} (h : Tab w R) {p : Addr} (hp : R ≠ p.block) (v : Value) : Tab (w.setCell p v) R := fun b => (World.cell?_setCell_other w p ⟨R, b.toNat, none⟩ v (fun e => hp (by rw [e]))).trans (h b)
theorem Tab.drew {w : World} {R : Nat} (h : Tab w R) : Tab w.drew R := h
theorem grown_set {w w1 : World} {P k : Nat} {v : Value} (h : w.grownBy w1 (some P)) : w.grownBy (w1.setCell ⟨P, k, none⟩ v) (some P) :=
  ⟨h.os, h.tape, h.output, by simpa using h.size, fun i hi hne => (Below.heap_setCell w1 ⟨P, k, none⟩ v i (fun e => hne (by rw [e]))).trans (h.block i hi hne)⟩
theorem grown_drew {w w1 : World} {row : Option Nat} (h : w.grownBy w1 row) : w.grownBy w1.drew row := ⟨h.os, h.tape, h.output, h.size, h.block⟩
theorem bl_grown {w w1 : World} (h : Below w.heap.size w w1) (row : Option Nat) : w.grownBy w1 row := ⟨h.os, h.tape, h.output, h.size, fun i hi _ => h.block i hi⟩
theorem bload_zero (a : Addr) (w : World) (hc : w.cell? a = some (.int .u32 0)) : Calls Try.prog 64 #[.pointer (some a)] w fun e w' => e = .returned (.bool false) ∧ w' = w := by
  have hl := run_call_load (P := Try.prog) Try.func81 (by kernel_rfl) (by kernel_rfl) (by kernel_rfl) .u32 (by kernel_rfl) hc
  go_enter Try.func64, Try.ntmps64
  go_wp2
  go_ret
  exact ⟨rfl, rfl⟩
/-- What buildOnce leaves. -/
def BuiltAt (P : Nat) (f : Nat → Value) (w w' : World) : Prop :=
  ∃ R, w.heap.size ≤ R ∧ Tab w' R ∧ w'.rowIs P 87 5 (fun j => if j = 4 then .slice none 0 0 else if j = 3 then .iface 128 (.pointer (some ⟨R, 0, none⟩)) else f j) ∧ w.grownBy w' (some P)
set_option maxRecDepth 100000 in
set_option maxHeartbeats 1000000 in
theorem buildOnce_any (P G cap : Nat) (f : Nat → Value) (w : World) (h : w.rowIs P 87 5 f) (h4 : f 4 = .slice (some ⟨G, 0, none⟩) 4 cap) (hs : ∀ k, k < 4 → w.cell? ⟨G, k, none⟩ = some (.string (oldNew k))) :
    Calls Try.prog 49 #[.pointer (some ⟨P, 0, none⟩)] w fun e w' => e = .returned (.tuple #[]) ∧ BuiltAt P f w w' := by
  have hP := h.lt
  have hc : w.cell? ⟨P, 4, none⟩ = some (.slice (some ⟨G, 0, none⟩) 4 cap) := by rw [h.cell (show 4 < 5 by omega), h4]
  go_enter Try.func49, Try.ntmps49
  go_wp2_with fail
  with_reducible refine (build_any P G cap _ hc hs).mono ?_
  rintro e w1 ⟨rfl, ht, hb⟩
  have hrow := h.of_block (hb.block P hP)
  have hc3 := hrow.cell (show 3 < 5 by omega)
  have hf3 := hrow.frozen 3
  have hrow3 := hrow.set 3 (.iface 128 (.pointer (some ⟨w.heap.size, 0, none⟩)))
  have hc4 := hrow3.cell (show 4 < 5 by omega)
  have hf4 := hrow3.frozen 4
  have hrow4 := hrow3.set 4 (.slice none 0 0)
  have HF : Hid (BuiltAt P f w ((w1.setCell ⟨P, 3, none⟩ (.iface 128 (.pointer (some ⟨w.heap.size, 0, none⟩)))).setCell ⟨P, 4, none⟩ (.slice none 0 0))) :=
    ⟨w.heap.size, Nat.le_refl _, Tab.other (Tab.other ht (by show w.heap.size ≠ P; omega) _) (by show w.heap.size ≠ P; omega) _, hrow4, grown_set (grown_set (bl_grown hb _))⟩
  clear ht hb hrow hrow3 hrow4 hc h hs
  go_wp2
  first | go_end0 | refine bodyPost_ret (results_none rfl _ _ _) rfl ?_
  exact ⟨rfl, HF.out⟩
set_option maxRecDepth 100000 in
set_option maxHeartbeats 1600000 in
theorem doSlow_any (P G cap : Nat) (f : Nat → Value) (w : World) (h : w.rowIs P 87 5 f) (h0 : f 0 = .int .u32 0) (h1 : f 1 = .int .i32 0) (h4 : f 4 = .slice (some ⟨G, 0, none⟩) 4 cap) (hs : ∀ k, k < 4 → w.cell? ⟨G, k, none⟩ = some (.string (oldNew k))) (hGP : G ≠ P) :
    Calls Try.prog 65 #[.pointer (some ⟨P, 0, none⟩), .func (.func 49) #[.pointer (some ⟨P, 0, none⟩)] #[]] w fun e w' => e = .returned (.tuple #[]) ∧
      ∃ R, w.heap.size ≤ R ∧ Tab w' R ∧ w'.cell? ⟨P, 3, none⟩ = some (.iface 128 (.pointer (some ⟨R, 0, none⟩))) ∧ w.grownBy w' (some P) := by
  have hc0 : w.cell? ⟨P, 0, none⟩ = some (.int .u32 0) := by rw [h.cell (show 0 < 5 by omega), h0]
  have hc1 : w.cell? ⟨P, 1, none⟩ = some (.int .i32 0) := by rw [h.cell (show 1 < 5 by omega), h1]
  have hf1 := h.frozen 1
  have hB0 := h.lt
  have hrow1 := h.set 1 (.int .i32 1)
  have hs1 : ∀ k, k < 4 → (w.setCell ⟨P, 1, none⟩ (.int .i32 1)).cell? ⟨G, k, none⟩ = some (.string (oldNew k)) := fun k hk => (World.cell?_setCell_other w ⟨P, 1, none⟩ ⟨G, k, none⟩ _ (fun e => hGP (by injection e with e1; exact e1.symm))).trans (hs k hk)
  have hg1 : w.grownBy (w.setCell ⟨P, 1, none⟩ (.int .i32 1)) (some P) := grown_set (World.grownBy.refl _ _)
  have hl := bload_zero ⟨P, 0, none⟩ (w.setCell ⟨P, 1, none⟩ (.int .i32 1)) ((World.cell?_setCell_other _ ⟨P, 1, none⟩ ⟨P, 0, none⟩ _ (by simp)).trans hc0)
  have hnot : ∀ (x : Bool) (w : World), (Op.unary .not (.bool x)).run Try.prog w = .ok (.bool (!x)) w := fun _ _ => rfl
  have hB := buildOnce_any P G cap _ (w.setCell ⟨P, 1, none⟩ (.int .i32 1)) hrow1 (by simpa using h4) hs1
  have hsz : (w.setCell ⟨P, 1, none⟩ (.int .i32 1)).heap.size = w.heap.size := by simp
  clear hrow1 hs1 hs h
  go_enter_defers Try.func65, Try.ntmps65
  go_wp2_with fail
  refine (lock_free ⟨P, 1, none⟩ _ hc1 hf1).mono ?_
  rintro e w' ⟨rfl, rfl⟩
  go_wp2_with fail
  refine hl.mono ?_
  rintro e w' ⟨rfl, rfl⟩
  go_wp2_with fail
  refine hB.mono ?_
  rintro e w2 ⟨rfl, R, hR, ht, hr2, hg2⟩
  have hc0' := hr2.cell (show 0 < 5 by omega)
  have hc1' := hr2.cell (show 1 < 5 by omega)
  have hc3' := hr2.cell (show 3 < 5 by omega)
  have hz0 := hr2.frozen 0
  have hz1 := hr2.frozen 1
  rw [hsz] at hR
  have hRP : R ≠ P := by have := hB0; omega
  simp only [show ¬ (0 = 4) by decide, show ¬ (0 = 3) by decide, show ¬ (0 = 1) by decide, if_false, h0] at hc0'
  simp only [show ¬ (1 = 4) by decide, show ¬ (1 = 3) by decide, if_false, if_true] at hc1'
  simp only [show ¬ (3 = 4) by decide, if_false, if_true] at hc3'
  go_wp2
  refine leaves_cons (f := 84) (args := #[.pointer (some ⟨P, 0, none⟩), .bool true]) (by simp) (by simp [go_sem]) ?_
  refine (store_deferred ⟨P, 0, none⟩ (.int .u32 0) .returning _ hc0' hz0).mono ?_
  rintro e u' w'' ⟨rfl, rfl, rfl⟩
  refine leaves_cons (f := 83) (args := #[.pointer (some ⟨P, 1, none⟩)]) (by simp [settle]) (by simp [go_sem]) ?_
  refine (unlock_deferred ⟨P, 1, none⟩ _ _ ?_ (by simpa using hz1)).mono ?_
  · exact (World.cell?_setCell_other _ ⟨P, 0, none⟩ ⟨P, 1, none⟩ _ (by simp)).trans hc1'
  rintro e u' w'' ⟨rfl, rfl, rfl⟩
  have HF : ∃ R, w.heap.size ≤ R ∧ Tab (((w2.drew).setCell ⟨P, 0, none⟩ (.int .u32 1)).setCell ⟨P, 1, none⟩ (.int .i32 0)) R ∧ (((w2.drew).setCell ⟨P, 0, none⟩ (.int .u32 1)).setCell ⟨P, 1, none⟩ (.int .i32 0)).cell? ⟨P, 3, none⟩ = some (.iface 128 (.pointer (some ⟨R, 0, none⟩))) ∧ w.grownBy (((w2.drew).setCell ⟨P, 0, none⟩ (.int .u32 1)).setCell ⟨P, 1, none⟩ (.int .i32 0)) (some P) :=
    ⟨R, hR, Tab.other (p := ⟨P, 1, none⟩) (Tab.other (p := ⟨P, 0, none⟩) (Tab.drew ht) hRP _) hRP _, (World.cell?_setCell_other _ ⟨P, 1, none⟩ ⟨P, 3, none⟩ _ (by simp)).trans ((World.cell?_setCell_other _ ⟨P, 0, none⟩ ⟨P, 3, none⟩ _ (by simp)).trans hc3'), grown_set (grown_set (grown_drew (hg1.trans hg2)))⟩
  simp only [Leaves, settle]
  refine ⟨.tuple #[], ?_, rfl, HF⟩
  simp [results, Try.results65]
set_option maxRecDepth 100000 in
set_option maxHeartbeats 1600000 in
theorem do_any (P G cap : Nat) (f : Nat → Value) (w : World) (h : w.rowIs P 87 5 f) (h0 : f 0 = .int .u32 0) (h1 : f 1 = .int .i32 0) (h4 : f 4 = .slice (some ⟨G, 0, none⟩) 4 cap) (hs : ∀ k, k < 4 → w.cell? ⟨G, k, none⟩ = some (.string (oldNew k))) (hGP : G ≠ P) :
    Calls Try.prog 48 #[.pointer (some ⟨P, 0, none⟩), .func (.func 49) #[.pointer (some ⟨P, 0, none⟩)] #[]] w fun e w' => e = .returned (.tuple #[]) ∧
      ∃ R, w.heap.size ≤ R ∧ Tab w' R ∧ w'.cell? ⟨P, 3, none⟩ = some (.iface 128 (.pointer (some ⟨R, 0, none⟩))) ∧ w.grownBy w' (some P) := by
  have hc0 : w.cell? ⟨P, 0, none⟩ = some (.int .u32 0) := by rw [h.cell (show 0 < 5 by omega), h0]
  have hl := bload_zero ⟨P, 0, none⟩ w hc0
  have hD := doSlow_any P G cap f w h h0 h1 h4 hs hGP
  have hnot : ∀ (x : Bool) (w : World), (Op.unary .not (.bool x)).run Try.prog w = .ok (.bool (!x)) w := fun _ _ => rfl
  clear h hs
  go_enter Try.func48, Try.ntmps48
  go_wp2_with fail
  refine hl.mono ?_
  rintro e w' ⟨rfl, rfl⟩
  go_wp2_with fail
  refine hD.mono ?_
  rintro e w2 ⟨rfl, hR⟩
  have HR := hid hR
  clear hR
  go_wp2
  first | go_end0 | refine bodyPost_ret (results_none rfl _ _ _) rfl ?_
  exact ⟨rfl, HR.out⟩
set_option maxRecDepth 100000 in
set_option maxHeartbeats 1600000 in
theorem replace_any (P G cap : Nat) (f : Nat → Value) (s : ByteArray) (w : World) (hsz : s.size ≤ maxLen) (h : w.rowIs P 87 5 f) (h0 : f 0 = .int .u32 0) (h1 : f 1 = .int .i32 0) (h4 : f 4 = .slice (some ⟨G, 0, none⟩) 4 cap) (hs : ∀ k, k < 4 → w.cell? ⟨G, k, none⟩ = some (.string (oldNew k))) (hGP : G ≠ P) :
    Calls Try.prog 30 #[.pointer (some ⟨P, 0, none⟩), .string s] w fun e w' => e = .returned (.string (flipS s)) ∧ w.grownBy w' (some P) := by
  have hD := do_any P G cap f w h h0 h1 h4 hs hGP
  have hm : ∀ (a : Addr) (W : World), (method 300 128 (.pointer (some a)) "Replace").run Try.prog W = .ok (148, .pointer (some a)) W := fun _ _ => by kernel_rfl
  have hmf : ∀ (fn : Fn) (first cap : Array Value) (w : World), (Instr.makeFunc fn first cap).run Try.prog w = .ok (.func fn first cap) w := fun _ _ _ _ => rfl
  clear h hs
  go_enter Try.func30, Try.ntmps30
  go_wp2_with fail
  refine hD.mono ?_
  rintro e w1 ⟨rfl, R, hR, ht, hc3, hg⟩
  have hB := byteRep_any R s w1 hsz ht
  go_wp2_with fail
  refine hB.mono ?_
  rintro e w2 ⟨rfl, hb2⟩
  have HG := hid (hg.trans (bl_grown hb2 (some P)))
  clear hb2 hg ht hB
  go_wp2
  go_ret
  exact ⟨rfl, HG.out⟩
end Go.Proofs.Ytpjhmmoncbghdaa
