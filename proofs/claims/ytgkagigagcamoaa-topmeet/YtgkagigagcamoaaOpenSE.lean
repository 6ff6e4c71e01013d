
/-
A list of edits that came in, read; and one edit.
-/
import Derived.Test.YtgkagigagcamoaaEvRow
import Derived.ProofKit
import Derived.Deep.Slices
import Derived.ChangeSame
import Derived.SizedLaws
namespace Go.Proofs.Ytgkagigagcamoaa
open Go.ChangeShapes Go.WideShapes Go.ChangeAt Go.RowKit Go.Deep

theorem Try.laidOutAllE : laidOutB Try.prog = true := by kernel_rfl
theorem Try.cellsEv : Try.prog.cellsOf 59 = 3 := by kernel_rfl
theorem i64_of_wf {z : Int} (h : (Lit.int .i64 z).wf = true) : -9223372036854775808 ≤ z ∧ z ≤ 9223372036854775807 := by
  simp [Lit.wf] at h
  have h1 : IntKind.i64.min = -9223372036854775808 := rfl
  have h2 : IntKind.i64.max = 9223372036854775807 := rfl
  omega
theorem one_edit {H : Type} {enc : TypeId × Value → H} {P : Program} {w : World} {base : Nat} {spare : Nat → Bool} {held : Bool} {fuel : Nat} {cs : List Value} {x : DataW H × List MemPlace} {e : TypeId} {f0 f1 f2 : Field}
    (he : P.underlying e = some (.struct #[f0, f1, f2])) (t0 : P.underlying f0.type = some (.int .i64)) (t1 : P.underlying f1.type = some (.int .i64)) (t2 : P.underlying f2.type = some .string)
    (ce : P.cellsOf e = 3) (o0 : f0.offset = 0) (o1 : f1.offset = 1) (o2 : f2.offset = 2) (c0 : P.cellsOf f0.type = 1) (c1 : P.cellsOf f1.type = 1) (c2 : P.cellsOf f2.type = 1)
    (h : DataW.trod enc P w base spare held fuel e cs = some x) : ∃ v : Es.Ev, cs = evC v ∧ EvWf v := by
  obtain ⟨xs, k, _, _, hlen, hxl, hf⟩ := DataW.trod_struct he h
  rw [ce] at hlen
  match xs, hxl, cs, hlen with
  | [y0, y1, y2], _, [v0, v1, v2], _ =>
    have g0 := hf 0 f0 rfl
    have g1 := hf 1 f1 rfl
    have g2 := hf 2 f2 rfl
    simp [o0, o1, o2, c0, c1, c2] at g0 g1 g2
    obtain ⟨z0, e0, _, w0⟩ := DataW.trod_int t0 g0
    obtain ⟨z1, e1, _, w1⟩ := DataW.trod_int t1 g1
    obtain ⟨z2, e2, _, w2⟩ := DataW.trod_string t2 g2
    simp only [List.cons.injEq, and_true] at e0 e1 e2
    subst e0 e1 e2
    have q0 := i64_of_wf w0
    have q1 := i64_of_wf w1
    exact ⟨⟨z0, z1, z2⟩, rfl, q0.1, q0.2, q1.1, q1.2, w2⟩
theorem open_se {H : Type} {enc : TypeId × Value → H} {W : World} {A : Option Addr} {n c : Nat} {d : DataW H} {p : List MemPlace} (h : DataW.Trod enc Try.prog W 0 (fun _ => true) true 54 (.slice A n c) d p) :
    ∃ g, EvRow W A n g ∧ (∀ k, k < n → EvWf (g k)) ∧ n ≤ c ∧ c ≤ maxLen := by
  obtain ⟨fuel, hf⟩ := h
  rcases open_slice Try.underlying54 hf with ⟨hcs, _⟩ | ⟨a, len', cap', m, f, D, Pl, hcs, _, hl, hm, hmm, _, hx⟩
  · simp [Value.cells] at hcs
    obtain ⟨rfl, rfl, rfl⟩ := hcs
    exact ⟨fun _ => Es.none_, fun k hk => by omega, fun k hk => by omega, by omega, by decide⟩
  · simp [Value.cells] at hcs
    obtain ⟨rfl, rfl, rfl⟩ := hcs
    simp only [if_true] at hmm
    have each : ∀ k, k < n → ∃ q : Es.Ev, (W.cell? (a.add (k * 3)) = some (.int .i64 q.a) ∧ W.cell? (a.add (k * 3 + 1)) = some (.int .i64 q.d) ∧ W.cell? (a.add (k * 3 + 2)) = some (.string q.s)) ∧ EvWf q := by
      intro k hk
      obtain ⟨cs', h1, h2⟩ := hx k (by omega)
      rw [Try.cellsEv] at h1
      obtain ⟨_, _, hcell⟩ := World.cells?_some h1
      obtain ⟨q, rfl, hw⟩ := one_edit Try.underlying59 Try.underlying3 Try.underlying3 Try.underlying9 Try.cellsEv rfl rfl rfl (by kernel_rfl) (by kernel_rfl) (by kernel_rfl) h2
      have e0 := hcell 0 (by omega)
      have e1 := hcell 1 (by omega)
      have e2 := hcell 2 (by omega)
      rw [add_add] at e0 e1 e2
      exact ⟨q, ⟨by simpa [evC] using e0, by simpa [evC] using e1, by simpa [evC] using e2⟩, hw⟩
    haveI : Inhabited Es.Ev := ⟨Es.none_⟩
    obtain ⟨g, hg⟩ := choose_lt each
    refine ⟨g, ?_, fun k hk => (hg k hk).2, hl, hm⟩
    intro k hk
    obtain ⟨b, off, spot⟩ := a
    have hspot : spot = none := by simpa [Addr.add] using World.cell?_spot (hg 0 (by omega)).1.1
    subst hspot
    obtain ⟨⟨h1, h2, h3⟩, _⟩ := hg k hk
    rw [Addr.add_lit] at h1 h2 h3
    exact ⟨b, off, rfl, World.block_lt_of_cell? _ _ h1, h1, h2, h3⟩
/-- One edit that came in. -/
def evA (x : Es.Ev) : Array Value := #[.int .i64 x.a, .int .i64 x.d, .string x.s]
theorem open_e {H : Type} {enc : TypeId × Value → H} {W : World} {cs : Array Value} {d : DataW H} {p : List MemPlace} (h : DataW.Trod enc Try.prog W 0 (fun _ => true) true 59 (.agg cs) d p) : ∃ x : Es.Ev, cs = evA x ∧ EvWf x := by
  obtain ⟨fuel, hf⟩ := h
  obtain ⟨x, hx, hw⟩ := one_edit Try.underlying59 Try.underlying3 Try.underlying3 Try.underlying9 Try.cellsEv rfl rfl rfl (by kernel_rfl) (by kernel_rfl) (by kernel_rfl) hf
  refine ⟨x, ?_, hw⟩
  simp [Value.cells] at hx
  unfold evA
  apply Array.ext'
  rw [hx]; rfl
end Go.Proofs.Ytgkagigagcamoaa
