/-
The contracts of quillkeep.codes and quillkeep.lensOf.
-/
import Derived.Test.YtpjhmmoncbghdaaCodeC
import Derived.Test.YtpjhmmoncbghdaaKeep
namespace Go.Proofs.Ytpjhmmoncbghdaa
open Go.RowKit

theorem zeros3 (w : World) (t : TypeId) : ∀ k, k < 3 → (w.alloc (.cells #[.int .i64 0, .int .i64 0, .int .i64 0] t)).cell? ⟨w.heap.size, k, none⟩ = some (.int .i64 0) := by
  intro k hk
  match k, hk with
  | 0, _ => simp
  | 1, _ => simp
  | 2, _ => simp
theorem codes_ok (w : World) : Calls Try.prog 20 #[] w fun e w' => e = .returned (.bool true) ∧ Below w.heap.size w w' := by
  have hA := fun W => Front_any (c := 3) (g := exG exA) (W.alloc (.cells #[.string ⟨#[48]⟩, .string ⟨#[49, 48]⟩, .string ⟨#[49, 49]⟩] 9)) (SRow.lits W exA 9 3 _ rfl rfl) (by decide) (by decide)
  have hB := fun W => Sole_any (c := 2) (g := exG exB) (W.alloc (.cells #[.string ⟨#[48]⟩, .string ⟨#[48, 49]⟩] 9)) (SRow.lits W exB 9 2 _ rfl rfl) (by decide) (by decide)
  have hC := fun W => Sole_any (c := 3) (g := exG exC) (W.alloc (.cells #[.string ⟨#[48]⟩, .string ⟨#[49]⟩, .string ⟨#[48, 49]⟩] 9)) (SRow.lits W exC 9 3 _ rfl rfl) (by decide) (by decide)
  rw [exA_w] at hA
  rw [exB_w] at hB
  rw [exC_w] at hC
  go_enter Try.func20, Try.ntmps20
  go_wp2_with fail
  refine (hA _).mono ?_
  rintro e w1 ⟨⟨b1, rfl, h1, _⟩, hb1⟩
  obtain rfl : b1 = true := (h1 (by decide +kernel)).2 exA_pf
  rw [show Cm.cErr [[48], [49, 48], [49, 49]] = 0 by decide +kernel]
  have HB1 := hid (bl_then (bl_new w _) hb1)
  clear h1 hb1 hA
  go_wp2_with fail
  refine (hB _).mono ?_
  rintro e w2 ⟨⟨b2, rfl, h2, _⟩, hb2⟩
  obtain rfl : b2 = true := (h2 (by decide +kernel)).2 exB_ud
  rw [show Cm.cErr [[48], [48, 49]] = 0 by decide +kernel]
  have HB2 := hid (bl_then HB1.out (bl_then (bl_new w1 _) hb2))
  clear h2 hb2 HB1 hB
  go_wp2_with fail
  refine (hC _).mono ?_
  rintro e w3 ⟨⟨b3, rfl, h3, _⟩, hb3⟩
  obtain rfl : b3 = false := by
    cases b3 with
    | false => rfl
    | true => exact absurd ((h3 (by decide +kernel)).1 rfl) exC_no
  rw [show Cm.cErr [[48], [49], [48, 49]] = 0 by decide +kernel]
  have HB3 := hid (bl_then HB2.out (bl_then (bl_new w2 _) hb3))
  clear h3 hb3 HB2 hC
  go_wp2_with fail
  with_reducible refine (good_ok _ 3 3 _ (by omega) (zeros3 _ _)).mono ?_
  rintro e w4 ⟨rfl, rfl⟩
  have HB4 := hid (bl_then HB3.out (bl_new w3 (.cells #[.int .i64 0, .int .i64 0, .int .i64 0] 23)))
  clear HB3
  go_wp2
  go_ret
  exact ⟨rfl, HB4.out⟩
theorem OwnI.irowc {w : World} {base : Nat} {v : Value} {l : List Int} (h : OwnI w base v l) : ∃ A c, v = .slice A l.length c ∧ l.length ≤ c ∧ IRow w A l.length (fun k => l.getD k 0) := by
  obtain ⟨A, c, e, hr⟩ := h.irow
  refine ⟨A, c, e, ?_, hr⟩
  rcases h.2 with ⟨rfl, h0⟩ | ⟨g, cap, cur, rfl, h1, h2, h3, _⟩
  · injection e with _ e2 e3
    omega
  · injection e with _ e2 e3
    omega
/-- The lengths of the first i words. -/
def lnsL (g : Nat → ByteArray) (i : Nat) : List Int := (List.range i).map fun k => ((g k).size : Int)
theorem lnsL_succ (g : Nat → ByteArray) (i : Nat) : lnsL g (i + 1) = lnsL g i ++ [((g i).size : Int)] := by unfold lnsL; rw [List.range_succ, List.map_append]; rfl
theorem lnsL_len (g : Nat → ByteArray) (i : Nat) : (lnsL g i).length = i := by unfold lnsL; simp
theorem lnsL_get {g : Nat → ByteArray} {n k : Nat} (h : k < n) : (lnsL g n).getD k 0 = ((g k).size : Int) := by
  unfold lnsL
  rw [List.getD_eq_getElem?_getD, List.getElem?_map, List.getElem?_range h]
  rfl
theorem lensOf_ok {A : Option Addr} {n c : Nat} {g : Nat → ByteArray} (w : World) (h : SRow w A n g) (hn : n ≤ 12) :
    Calls Try.prog 21 #[.slice A n c] w fun e w' => ∃ A' c', e = .returned (.slice A' n c') ∧ n ≤ c' ∧ IRow w' A' n (fun k => ((g k).size : Int)) ∧ Below w.heap.size w w' := by
  have H := hid h
  clear h
  go_enter Try.func21, Try.ntmps21
  go_wp2
  go_loopw [3, 8] (fun v y wr => ∃ i : Nat, i ≤ n ∧ y = .int .i64 (i : Int) ∧ Hid (OwnI wr w.heap.size v (lnsL g i)) ∧ Below w.heap.size w wr) (fun _ y _ => n - (intOf y).toNat)
  case atStart => exact ⟨0, by omega, rfl, hid (OwnI.zero _ _), Below.refl _ _⟩
  case round =>
    obtain ⟨i, hi, rfl, HO, hbel⟩ := hrel
    have hsz := hbel.size
    by_cases hlt : i < n
    · have hlt' : (i : Int) < (n : Int) := by omega
      obtain ⟨b, o, rfl, hbl, hc0⟩ := H.out i hlt
      have hc := (hbel.cell (p := ⟨b, o + i, none⟩) hbl).trans hc0
      have hln : (lnsL g i).length < 1000000 := by rw [lnsL_len]; omega
      clear hc0
      go_wp2_with (at_builtin; with_reducible refine app_int rfl _ _ rfl rfl HO.out _ rfl rfl hsz hln ?_)
      intro v' w3 hown3 hb3
      rw [← lnsL_succ] at hown3
      have HO3 := hid hown3
      have hbel3 := hbel.trans hb3
      clear hown3 hb3 HO
      go_wp2
      go_roundw
      case measure => simp [intOf]; omega
      case rel => exact ⟨i + 1, by omega, by go_num, HO3, hbel3⟩
    · obtain rfl : n = i := by omega
      have hdl : decide ((n : Int) < (n : Int)) = false := decide_eq_false (by omega)
      obtain ⟨A2, c2, rfl, hcap, hrow⟩ := OwnI.irowc HO.out
      rw [lnsL_len] at hrow hcap ⊢
      have HR : Hid (IRow wr A2 n (fun k => ((g k).size : Int))) := hrow.congr fun k hk => lnsL_get hk
      clear HO hrow
      go_wp2
      go_ret
      exact ⟨A2, c2, rfl, hcap, HR.out, hbel⟩
end Go.Proofs.Ytpjhmmoncbghdaa
