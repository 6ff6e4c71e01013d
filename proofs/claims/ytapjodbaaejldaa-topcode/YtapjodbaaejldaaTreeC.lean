
/-
The contracts of package tree, and of code.Sum.
-/
import Derived.Test.YtapjodbaaejldaaSeg49
import Derived.Test.YtapjodbaaejldaaSeg45
namespace Go.Proofs.Ytapjodbaaejldaa
open Go.RowKit
theorem TCheck_any {A : Option Addr} {n c : Nat} {g : Nat → Int} (w : World) (h : IRow w A n g) :
    Calls Try.prog 108 #[.slice A n c] w fun e w' => e = .returned (.int .i64 (Hm.wErr g n)) ∧ Below w.heap.size w w' := by
  refine (tcheck_any (c := c) w h).mono ?_
  rintro e w1 ⟨rfl, rfl⟩
  exact ⟨rfl, Below.refl _ _⟩
theorem LensPost.no {g : Nat → Int} {n : Nat} {w : World} (h : Hm.wErr g n ≠ 0) : LensPost g n w (.returned (.tuple #[.slice none 0 0, .int .i64 (Hm.wErr g n)])) w :=
  ⟨⟨none, 0, 0, rfl, Nat.le_refl _, IRow.none_ _ _ _, fun _ => rfl, fun h2 => absurd h2 h⟩, Below.refl _ _⟩
theorem LensPost.ok {g : Nat → Int} {n c : Nat} {A : Option Addr} {w w' : World} (h : Hm.wErr g n = 0) (hc : n ≤ c) (hr : IRow w' A n (fun k => ((lensF g n k : Nat) : Int))) (hb : Below w.heap.size w w') : LensPost g n w (.returned (.tuple #[.slice A n c, .int .i64 0])) w' :=
  ⟨⟨A, n, c, by rw [h], hc, hr, fun h2 => absurd h h2, fun _ => rfl⟩, hb⟩
theorem lens_row {g : Nat → Int} {n : Nat} {A : Option Addr} {w : World} (h1 : n ≠ 1) (h : IRow w A n (fun k => ((Hm.hdep (Cm.ln g) n k : Nat) : Int))) : IRow w A n (fun k => ((lensF g n k : Nat) : Int)) := by
  refine h.congr fun k _ => ?_
  unfold lensF
  rw [if_neg h1]
theorem Lens_any {A : Option Addr} {n c : Nat} {g : Nat → Int} (w : World) (h : IRow w A n g) (_ : n ≤ c) :
    Calls Try.prog 74 #[.slice A n c] w (LensPost g n w) := by
  have hK := tcheck_any (c := c) w h
  by_cases hE : Hm.wErr g n = 0
  · have HE := hid hE
    rw [hE] at hK
    by_cases h1 : n = 1
    · have h1' : ((n : Int) == 1) = true := beq_iff_eq.2 (by omega)
      have HR := hid (LensPost.ok (c := 1) hE (by omega) (A := some ⟨w.heap.size, 0, none⟩) (w' := w.alloc (.cells #[.int .i64 1] 3)) (w := w) (IRow.congr (IRow.lit w [1] 3 n _ rfl (by rw [h1]; rfl)) fun k hk => by
        obtain rfl : k = 0 := by omega
        unfold lensF
        rw [if_pos h1]; rfl) (bl_new w _))
      have H1 := hid h1
      clear h hE h1
      go_enter Try.func74, Try.ntmps74
      go_wp2_with fail
      with_reducible refine hK.mono ?_
      rintro e w1 ⟨rfl, rfl⟩
      clear hK
      go_wp2
      go_ret2
      rw [H1.out]
      rw [H1.out] at HR
      exact HR.out
    · have h1' : ((n : Int) == 1) = false := beq_eq_false_iff_ne.2 (by omega)
      have hD := depths_any (c := c) (wt := Cm.ln g) w h (fun k hk => (Hm.ln_pos hE k hk).2.2.symm) (fun k hk => (Hm.ln_pos hE k hk).2.1) (Hm.wErr_zero.1 hE).1
      have H1 := hid h1
      clear h hE h1
      go_enter Try.func74, Try.ntmps74
      go_wp2_with fail
      with_reducible refine hK.mono ?_
      rintro e w1 ⟨rfl, rfl⟩
      clear hK
      go_wp2_with fail
      with_reducible refine hD.mono ?_
      rintro e w2 ⟨A2, c2, rfl, hc2, hr, hb⟩
      have HR := hid (lens_row H1.out hr)
      have HB := hid hb
      clear hD hr hb
      go_wp2
      go_ret2
      exact LensPost.ok HE.out hc2 HR.out HB.out
  · have HN := hid (LensPost.no (w := w) hE)
    have hE' : (Hm.wErr g n != 0) = true := bne_iff_ne.2 hE
    clear h
    generalize Hm.wErr g n = x at *
    go_enter Try.func74, Try.ntmps74
    go_wp2_with fail
    with_reducible refine hK.mono ?_
    rintro e w1 ⟨rfl, rfl⟩
    clear hK
    go_wp2
    go_ret2
    exact HN.out
theorem TMake_any {A : Option Addr} {n c : Nat} {g : Nat → Int} (w : World) (h : IRow w A n g) (hc : n ≤ c) :
    Calls Try.prog 36 #[.slice A n c] w (TMakePost g n w) := tmake_any w (Lens_any w h hc)
theorem TSum_any {A : Option Addr} {n c : Nat} {g : Nat → Int} (w : World) (h : IRow w A n g) :
    Calls Try.prog 110 #[.slice A n c] w fun e w' => e = .returned (.tuple #[.int .i64 (lSum g n), .int .i64 (Cm.lErr g n)]) ∧ Below w.heap.size w w' := by
  refine (sum_any (c := c) w h).mono ?_
  rintro e w1 ⟨rfl, rfl⟩
  exact ⟨rfl, Below.refl _ _⟩
end Go.Proofs.Ytapjodbaaejldaa
