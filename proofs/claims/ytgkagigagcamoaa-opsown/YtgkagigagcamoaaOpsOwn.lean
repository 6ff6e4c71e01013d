
/-
quillkeep.OpsOwn: whatever a number and two rows of ops: it answers true.
-/
import Derived.Test.YtgkagigagcamoaaShifts
import Derived.Test.YtgkagigagcamoaaShUse
import Derived.Test.YtgkagigagcamoaaSpoilO
import Derived.Test.YtgkagigagcamoaaOpIdx
namespace Go.Proofs.Ytgkagigagcamoaa
open Go.RowKit

theorem row_pos {L : List Sh.Op} : ∀ {n : Int}, Sh.RowOk n L → ∀ x, x ∈ L → 0 ≤ x.a := by
  induction L with
  | nil => intro n _ x hx; simp at hx
  | cons y L ih =>
    intro n h x hx
    rw [List.mem_cons] at hx
    rcases hx with rfl | hx
    · have := op_small h.1
      omega
    · exact ih h.2 x hx
/-- No op that is answered stands at -7. -/
theorem AllIs.clean {n : Int} {A B u v : List Sh.Op} {e : Int} (h : AllIs n A B u v e) (hn : N64 n) : Sh.has u ⟨0, -7, 0⟩ = false ∧ Sh.has v ⟨0, -7, 0⟩ = false := by
  by_cases he : e = 0
  · have G := h.good hn he
    obtain ⟨-, hu, hv⟩ := h.ok he
    by_cases h0 : 0 ≤ n
    · obtain ⟨m, rfl⟩ : ∃ m : Nat, n = (m : Int) := ⟨n.toNat, by omega⟩
      obtain ⟨r1, r2⟩ := Sh.rows_ok G.ra G.rb G.ta G.tb
      rw [← hu] at r1
      rw [← hv] at r2
      refine ⟨Sh.has_no.2 fun hx => ?_, Sh.has_no.2 fun hx => ?_⟩
      · exact absurd (row_pos r1 _ hx) (by decide)
      · exact absurd (row_pos r2 _ hx) (by decide)
    · have no : ∀ L : List Sh.Op, Sh.RowOk n L → L = [] := fun L hL => by
        cases L with
        | nil => rfl
        | cons x L => exact absurd (ops_range hL.1).1 h0
      have eA := no A G.ra
      have eB := no B G.rb
      subst eA eB
      subst hu hv
      exact ⟨rfl, rfl⟩
  · obtain ⟨rfl, rfl⟩ := h.none_ he
    exact ⟨rfl, rfl⟩
theorem spoil7 {w : World} {base : Nat} {v : Value} {L : List Sh.Op} (h : OwnO w base v L) :
    Calls Try.prog 27 #[v, .agg #[.int .i64 0, .int .i64 (-7), .int .u8 0]] w fun e w' => e = .returned (.tuple #[]) ∧ w.grownBy w' v.ownBlock :=
  spoilO_any ⟨0, -7, 0⟩ h
theorem has7 {A : Option Addr} {c base : Nat} {L : List Sh.Op} {w : World} (h : OwnO w base (.slice A L.length c) L) (hn : Sh.has L ⟨0, -7, 0⟩ = false) (hl : L.length ≤ maxLen) :
    Calls Try.prog 28 #[.slice A L.length c, .agg #[.int .i64 0, .int .i64 (-7), .int .u8 0]] w fun e w' => e = .returned (.bool false) ∧ Below w.heap.size w w' := by
  have := opHas_any (c := c) ⟨0, -7, 0⟩ w h.readAt hl
  rw [ol_of, hn] at this
  exact this
theorem AllIs.few {n : Int} {A B u v : List Sh.Op} {e : Int} (h : AllIs n A B u v e) (hn : N64 n) : u.length ≤ maxLen ∧ v.length ≤ maxLen := by
  by_cases he : e = 0
  · have G := h.good hn he
    obtain ⟨-, hu, hv⟩ := h.ok he
    have l1 := (Sh.all_len A B).1
    have l2 := (Sh.all_len A B).2
    have g1 := G.la
    have g2 := G.lb
    rw [← hu] at l1
    rw [← hv] at l2
    unfold maxLen
    omega
  · obtain ⟨rfl, rfl⟩ := h.none_ he
    exact ⟨Nat.zero_le _, Nat.zero_le _⟩
set_option maxHeartbeats 4000000 in
theorem opsOwn_walk (N : Int) (A : Option Addr) (p c1 : Nat) (g : Nat → Sh.Op) (B : Option Addr) (q c2 : Nat) (h : Nat → Sh.Op) (w : World)
    (h1 : OpRow w A p g) (hw1 : ∀ k, k < p → OpWf (g k)) (hnc1 : p ≤ c1) (hc1 : c1 ≤ maxLen) (hs1 : p * 24 ≤ 140737488351232) (h2 : OpRow w B q h) (hw2 : ∀ k, k < q → OpWf (h k)) (hnc2 : q ≤ c2) (hc2 : c2 ≤ maxLen) (hs2 : q * 24 ≤ 140737488351232) (hN : -9223372036854775808 ≤ N ∧ N ≤ 9223372036854775807) :
    Calls Try.prog 9 #[.int .i64 N, .slice A p c1, .slice B q c2] w fun e w' => e = .returned (.bool true) ∧ Below w.heap.size w w' := by
  have H1 : Hid (OpIn w A p g) := ⟨h1, hw1, Nat.le_trans hnc1 hc1⟩
  have H2 : Hid (OpIn w B q h) := ⟨h2, hw2, Nat.le_trans hnc2 hc2⟩
  have HN : Hid (N64 N) := hN
  have HS1 := hid hs1
  have HS2 := hid hs2
  clear h1 hw1 hnc1 hc1 h2 hw2 hnc2 hc2 hN hs1 hs2
  go_enter Try.func9, Try.ntmps9
  go_wp2_with fail
  with_reducible refine (shifts_ok _).mono ?_
  rintro e w1 ⟨rfl, hb⟩
  have HB := hid hb
  clear hb
  go_wp2_with fail
  with_reducible refine (clone_o_big A p c1 g _ (H1.out.keep HB.out).row HS1.out (fun e => H1.out.row.nil_len e)).mono ?_
  rintro e w2 ⟨v1, rfl, ho1, hb⟩
  replace HB := hid (bl_then HB.out hb)
  have HO1 := hid ho1
  clear hb ho1
  go_wp2_with fail
  with_reducible refine (clone_o_big B q c2 h _ (H2.out.keep HB.out).row HS2.out (fun e => H2.out.row.nil_len e)).mono ?_
  rintro e w3 ⟨v2, rfl, ho2, hb⟩
  replace HB := hid (bl_then HB.out hb)
  obtain ⟨A1, ca, e1, -, hr1⟩ := (HO1.out.low hb).row
  obtain ⟨B1, cb, e2, -, hr2⟩ := ho2.row
  rw [ol_len] at e1 e2 hr1 hr2
  subst e1 e2
  have HX := hid hr1
  have HY := hid hr2
  clear hb ho2 HO1 hr1 hr2
  go_wp2_with fail
  with_reducible refine (All_any N _ (H1.out.keep HB.out) (H2.out.keep HB.out) HN.out).mono ?_
  rintro e w4 ⟨C, c, D, d, u, v, x, rfl, hall, hu, hv, hap, hb⟩
  have HALL := hid hall
  have HU := hid hu
  have HV := hid hv
  have HAP := hid hap
  have HB3 := hid hb
  have hsz := HB.out.size
  have HSZ := hid hsz
  clear hall hu hv hap hb hsz
  go_wp2_with fail
  with_reducible refine (spoil7 HU.out).mono ?_
  rintro e w5 ⟨rfl, hg⟩
  have HV5 := hid (HV.out.of_block fun k hk => hg.block k (HV.out.lt_ k hk).2 (fun e => HAP.out k e.symm hk))
  replace HB3 := hid (HB3.out.grown hg HB3.out.size fun k hk => (HU.out.lt_ k hk).1)
  clear hg
  go_wp2_with fail
  with_reducible refine (has7 HV5.out (HALL.out.clean HN.out).2 (HALL.out.few HN.out).2).mono ?_
  rintro e w6 ⟨rfl, hb⟩
  have HV6 := hid (HV5.out.low hb)
  replace HB3 := hid (bl_then HB3.out hb)
  clear hb HV5
  go_wp2_with fail
  with_reducible refine (spoil7 HV6.out).mono ?_
  rintro e w7 ⟨rfl, hg⟩
  replace HB3 := hid (HB3.out.grown hg HB3.out.size fun k hk => (HV.out.lt_ k hk).1)
  replace HB := hid (bl_then HB.out HB3.out)
  replace HX := hid (HX.out.keep HB3.out)
  replace HY := hid (HY.out.keep HB3.out)
  clear hg HV6 HB3 HV HU HAP HSZ
  go_wp2_with fail
  with_reducible refine (All_any N _ (H1.out.keep HB.out) (H2.out.keep HB.out) HN.out).mono ?_
  rintro e w8 ⟨C2, c3, D2, d2, u2, v2, x2, rfl, hall2, hu2, hv2, -, hb⟩
  obtain ⟨rfl, rfl, rfl⟩ := hall2.same HALL.out
  replace HB := hid (bl_then HB.out hb)
  replace HX := hid (HX.out.keep hb)
  replace HY := hid (HY.out.keep hb)
  have HU := hid hu2
  have HV := hid hv2
  clear hb hall2 hu2 hv2
  have hpm : p ≤ maxLen := H1.out.len
  have hqm : q ≤ maxLen := H2.out.len
  have HPM := hid hpm
  have HQM := hid hqm
  clear hpm hqm
  go_wp2_with fail
  with_reducible refine (oequal_any (H1.out.keep HB.out).row HX.out HPM.out HPM.out).mono ?_
  rintro e w9 ⟨he, hd⟩
  rw [eqO_same fun k hk => (ol_at hk).symm] at he
  subst he
  have hb := hd.below w8.heap.size
  replace HB := hid (bl_then HB.out hb)
  replace HY := hid (HY.out.keep hb)
  replace HU := hid (HU.out.low hb)
  replace HV := hid (HV.out.low hb)
  clear hd hb
  go_wp2_with fail
  with_reducible refine (oequal_any (H2.out.keep HB.out).row HY.out HQM.out HQM.out).mono ?_
  rintro e w10 ⟨he, hd⟩
  rw [eqO_same fun k hk => (ol_at hk).symm] at he
  subst he
  have hb := hd.below w9.heap.size
  replace HB := hid (bl_then HB.out hb)
  replace HU := hid (HU.out.low hb)
  replace HV := hid (HV.out.low hb)
  clear hd hb
  go_wp2_with fail
  with_reducible refine (has7 HU.out (HALL.out.clean HN.out).1 (HALL.out.few HN.out).1).mono ?_
  rintro e w11 ⟨rfl, hb⟩
  replace HB := hid (bl_then HB.out hb)
  replace HV := hid (HV.out.low hb)
  clear hb
  go_wp2_with fail
  with_reducible refine (has7 HV.out (HALL.out.clean HN.out).2 (HALL.out.few HN.out).2).mono ?_
  rintro e w12 ⟨rfl, hb⟩
  replace HB := hid (bl_then HB.out hb)
  clear hb
  go_wp2
  go_ret
  exact ⟨rfl, HB.out⟩
end Go.Proofs.Ytgkagigagcamoaa
