/-
The law quillkeep.OpsOwn returns true for every input, and its arguments read afterwards as before. No condition.
-/
import Derived.Test.YtgkagigagcamoaaRows
import Derived.Test.YtgkagigagcamoaaOpsOwn
import Derived.Test.YtgkagigagcamoaaOpenSO
import Derived.Test.YtgkagigagcamoaaOpenSOZ
import Derived.WalkKit
import Derived.ProofKit
import Derived.OpenShut
import Derived.ShutString
import Derived.SizedLaws
namespace Go.Proofs.Ytgkagigagcamoaa.opsOwn
open Go.ChangeShapes Go.WideShapes Go.ChangeAt Go.RowKit
open Go.ChangeMaps (open_string shut_string)
set_option linter.unusedVariables false

theorem own : ownKnob Try.prog.godebug = none := by kernel_rfl

set_option maxRecDepth 100000 in
theorem lifted (os : Os) (started : os.Started) (H : Type) (enc : TypeId × Value → H) :
    ReturnsInHanded {} Try.checked os 9 .any (Rows.opsOwnSpec.pre6 enc Try.prog Try.f9 Rows.opsOwnRow.domain false) (Rows.opsOwnSpec.post enc Try.prog Try.f9 false true false false) := by
  refine returnsInHanded_of_change_sized (C := Try.checked) own started (by kernel_rfl) Try.func9
    (ChangeSpec.witness6 (enc := enc) (C := Try.checked) false ⟨#[], #[.int .i64 0, .slice none 0 0, .slice none 0 0], []⟩ 8 (by kernel_rfl) (by kernel_rfl) (by kernel_rfl) (by kernel_rfl)) ?_
  intro W base args ds gs before hval0 hW hcnd hsz0 _
  have hsz : (DataW.weightsEach Try.prog (Try.f9.params.toList ++ Rows.opsOwnSpec.plain.varTypes Try.prog) (ds ++ gs)).all (· ≤ reachBytes) = true := hsz0
  clear hsz0
  have hval : ∀ (j : Nat) t v, Try.f9.params[j]? = some t → args[j]? = some v → Value.okWide Try.prog W .any base t v := hval0
  have hW' := hW
  obtain ⟨p, q, hA0, hV, rfl, hfz, hnd⟩ := hW
  have hA : DataW.TrodAll enc Try.prog W 0 (fun _ => true) true Try.f9.params.toList args.toList ds p := hA0
  rw [Try.params9] at hA hval hsz
  obtain ⟨v0, vs0, d0, ds0, p0, q0, hargs, rfl, rfl, h0, r0⟩ := trodAll_cons hA
  obtain ⟨v1, vs1, d1, ds1, p1, q1, rfl, rfl, rfl, h1, r1⟩ := trodAll_cons r0
  obtain ⟨v2, vs2, d2, ds2, p2, q2, rfl, rfl, rfl, h2, r2⟩ := trodAll_cons r1
  obtain ⟨rfl, rfl, rfl⟩ := trodAll_nil r2
  obtain rfl : args = #[v0, v1, v2] := by cases args; simp_all
  obtain ⟨rfl, rfl⟩ := trodVars_none hV
  obtain ⟨a0, rfl, rfl, rfl, w0⟩ := open_int Try.underlying3 (hval 0 3 v0 rfl rfl) h0
  obtain ⟨A1, n1, c1, rfl⟩ := okWide_slice Try.underlying33 (hval 1 33 v1 rfl rfl)
  obtain ⟨g1, hr1, hw1, hc1, hm1⟩ := open_so h1
  have s1 : n1 * 24 ≤ 140737488351232 := by
    rcases open_so_len h1 with h0 | ⟨xs, ys, hd, hl⟩
    · omega
    · subst hd
      have := sized_slice hsz (j := 1) (t := 33) (e := 23) rfl rfl Try.underlying33
      rw [Try.bytesOp, hl] at this
      simp only [reachBytes] at this
      omega
  obtain ⟨A2, n2, c2, rfl⟩ := okWide_slice Try.underlying33 (hval 2 33 v2 rfl rfl)
  obtain ⟨g2, hr2, hw2, hc2, hm2⟩ := open_so h2
  have s2 : n2 * 24 ≤ 140737488351232 := by
    rcases open_so_len h2 with h0 | ⟨xs, ys, hd, hl⟩
    · omega
    · subst hd
      have := sized_slice hsz (j := 2) (t := 33) (e := 23) rfl rfl Try.underlying33
      rw [Try.bytesOp, hl] at this
      simp only [reachBytes] at this
      omega
  clear hA0 hval0
  have hl1 : ∀ x ∈ p1, x.block < W.heap.size := fun x hx => by simpa using hW'.lt x (by simp [hx])
  have hl2 : ∀ x ∈ p2, x.block < W.heap.size := fun x hx => by simpa using hW'.lt x (by simp [hx])
  refine (opsOwn_walk a0 A1 n1 c1 g1 A2 n2 c2 g2 W  hr1 hw1 hc1 hm1 s1 hr2 hw2 hc2 hm2 s2 (i64_of_wf w0)).mono fun e W' ⟨he, hg⟩ => ?_
  subst he
  exact ⟨_, rfl, _, _, _, [], _, [], hW', (trodAll_cons_mk (shut_bool Try.underlying4 _) trodAll_mk0), (trodAll_cons_mk (shut_int Try.underlying3 w0) (trodAll_cons_mk (Below.trod Try.laidOutAllO (by kernel_rfl) (of_decide_eq_true (by kernel_rfl)) h1 hg hl1) (trodAll_cons_mk (Below.trod Try.laidOutAllO (by kernel_rfl) (of_decide_eq_true (by kernel_rfl)) h2 hg hl2) trodAll_mk0))), rfl, hg.frame _, fun h => by cases h⟩

theorem over : Rows.opsOwnRow.holds Try.pinned (OpenSpec.ofChange Rows.opsOwnSpec) :=
  OpenClaim.holds_of_wide 9 Try.f9 rfl rfl rfl rfl rfl rfl rfl ⟨rfl, rfl, rfl, rfl, rfl⟩ rfl rfl rfl rfl rfl (by kernel_rfl) Try.func9 (by kernel_rfl)
    (of_decide_eq_true (by kernel_rfl)) (by unfold Func.isWrapper; first | (rw [if_pos (by decide +kernel)]; kernel_rfl) | (rw [if_neg (by decide +kernel)]; exact ⟨rfl, rfl⟩))
    (fun os started H enc _ => lifted os started H enc)

theorem proved : Rows.OpsOwnSaid :=
  over
end Go.Proofs.Ytgkagigagcamoaa.opsOwn
namespace Go.Proofs.Ytgkagigagcamoaa
theorem opsOwn_holds : Rows.OpsOwnSaid := opsOwn.proved
end Go.Proofs.Ytgkagigagcamoaa
