
/-
A list of runs that came in, read.
-/
import Derived.Test.YthebjelkmopboaaRunRow
import Derived.ProofKit
import Derived.Deep.SlicePairs
import Derived.SizedLaws
namespace Go.Proofs.Ythebjelkmopboaa
open Go.ChangeShapes Go.WideShapes Go.ChangeAt Go.RowKit Go.Deep

theorem Try.laidOutAllR : laidOutB Try.prog = true := by kernel_rfl
theorem Try.bytesRun : Try.prog.bytesOf 39 = 16 := by kernel_rfl
theorem u8_nat' {z : Int} (h : (Lit.int .u8 z).wf = true) : ((UInt8.ofNat z.toNat).toNat : Int) = z := by
  have : 0 ≤ z ∧ z ≤ 255 := by
    simp [Lit.wf] at h
    have h1 : IntKind.u8.min = 0 := rfl
    have h2 : IntKind.u8.max = 255 := rfl
    omega
  rw [UInt8.toNat_ofNat']
  omega
theorem open_sr {H : Type} {enc : TypeId × Value → H} {W : World} {A : Option Addr} {n c : Nat} {d : DataW H} {p : List MemPlace} (h : DataW.Trod enc Try.prog W 0 (fun _ => true) true 23 (.slice A n c) d p) :
    ∃ g, RRow W A n g ∧ n ≤ c ∧ c ≤ maxLen ∧ ((d = .nil ∧ n = 0) ∨ ∃ (D E : Nat → DataW H) (m : Nat), d = .slice ((List.range n).map D) ((List.range m).map E)) := by
  obtain ⟨fuel, hf⟩ := h
  rcases open_slice_pairs Try.underlying23 Try.underlying39 (by kernel_rfl) rfl rfl (by kernel_rfl) (by kernel_rfl) hf with ⟨hcs, hx⟩ | ⟨a, len', cap', m, f, V0, V1, D0, D1, P0, P1, hcs, _, hl, hm, hmm, hx, hcell⟩
  · simp [Value.cells] at hcs
    obtain ⟨rfl, rfl, rfl⟩ := hcs
    simp only [Prod.mk.injEq] at hx
    exact ⟨fun _ => (0, 0), fun k hk => by omega, by omega, by decide, .inl ⟨hx.1, rfl⟩⟩
  · simp [Value.cells] at hcs
    obtain ⟨rfl, rfl, rfl⟩ := hcs
    simp only [Prod.mk.injEq] at hx
    simp only [if_true] at hmm
    have each : ∀ k, k < n → ∃ q : Rm.R, W.cell? (a.add (k * 2)) = some (.int .u8 (q.1.toNat : Int)) ∧ W.cell? (a.add (k * 2 + 1)) = some (.int .i64 q.2) := by
      intro k hk
      obtain ⟨h1, h2, h3, h4⟩ := hcell k (by omega)
      obtain ⟨x, e3, _, hx⟩ := DataW.trod_int Try.underlying5 h3
      obtain ⟨y, e4, _, _⟩ := DataW.trod_int Try.underlying3 h4
      simp only [List.cons.injEq, and_true] at e3 e4
      rw [e3] at h1
      rw [e4] at h2
      exact ⟨(UInt8.ofNat x.toNat, y), by rw [u8_nat' hx]; exact h1, h2⟩
    obtain ⟨g, hg⟩ : ∃ g : Nat → Rm.R, ∀ k, k < n → W.cell? (a.add (k * 2)) = some (.int .u8 ((g k).1.toNat : Int)) ∧ W.cell? (a.add (k * 2 + 1)) = some (.int .i64 (g k).2) :=
      ⟨fun k => if hk : k < n then Classical.choose (each k hk) else (0, 0), fun k hk => by simp only [dif_pos hk]; exact Classical.choose_spec (each k hk)⟩
    refine ⟨g, ?_, hl, hm, .inr ⟨_, _, _, hx.1⟩⟩
    intro k hk
    obtain ⟨b, off, spot⟩ := a
    have hspot : spot = none := by simpa [Addr.add] using World.cell?_spot (hg 0 (by omega)).1
    subst hspot
    obtain ⟨h1, h2⟩ := hg k hk
    rw [Addr.add_lit] at h1 h2
    exact ⟨b, off, rfl, World.block_lt_of_cell? _ _ h1, h1, h2⟩
end Go.Proofs.Ythebjelkmopboaa
