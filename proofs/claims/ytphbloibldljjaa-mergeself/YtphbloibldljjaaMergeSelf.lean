
/-
quillkeep.MergeSelf: whatever a number and a list of edits: it answers true.
-/
import Derived.Test.YtphbloibldljjaaMerges
namespace Go.Proofs.Ytphbloibldljjaa
open Go.RowKit

theorem eqE_el {L : List Es.Ev} {n : Nat} {g : Nat → Es.Ev} (hL : L = el g n) : eqE L.length n (fun k => L.getD k Es.none_) g = true := by
  subst hL
  rw [eqE_true]
  refine ⟨el_len g n, fun k hk => ?_⟩
  rw [el_len] at hk
  exact el_at hk
theorem err_nil (N : Int) (a : List Es.Ev) : Es.eErr N [] = 0 ∨ Es.eErr N a = Es.eErr N [] := by
  by_cases h : N < 0 ∨ 200 < N
  · right
    unfold Es.eErr
    rw [if_pos h, if_pos h]
  · left
    unfold Es.eErr
    rw [if_neg h, if_neg (by simp), if_pos (show Es.rowErr N (-1) [] = 0 from rfl), if_neg (by simp [Es.gro]; omega)]
theorem zeros4 (w : World) (t : TypeId) : ∀ k, k < 4 → (w.alloc (.cells #[.int .i64 0, .int .i64 0, .int .i64 0, .int .i64 0] t)).cell? ⟨w.heap.size, k, none⟩ = some (.int .i64 0) := by
  intro k hk
  match k, hk with
  | 0, _ => simp
  | 1, _ => simp
  | 2, _ => simp
  | 3, _ => simp
theorem mg_self (N : Int) (a : List Es.Ev) : mgErr N a a = Es.eErr N a := by unfold mgErr; split <;> simp_all
theorem mg_left (N : Int) (a : List Es.Ev) : mgErr N a [] = Es.eErr N a := by
  unfold mgErr
  split
  · rename_i h
    rcases err_nil N a with k | k
    · rw [k, h]
    · exact k.symm
  · rfl
theorem mg_right (N : Int) (a : List Es.Ev) : mgErr N [] a = Es.eErr N a := by
  unfold mgErr
  split
  · rfl
  · rename_i h
    exact ((err_nil N a).resolve_left h).symm
set_option maxHeartbeats 4000000 in
theorem mergeSelf_walk (N : Int) (A : Option Addr) (n c1 : Nat) (g : Nat → Es.Ev) (w : World)
    (h1 : EvRow w A n g) (hw1 : ∀ k, k < n → EvWf (g k)) (hnc1 : n ≤ c1) (hc1 : c1 ≤ maxLen) (hN : -9223372036854775808 ≤ N ∧ N ≤ 9223372036854775807) :
    Calls Try.prog 5 #[.int .i64 N, .slice A n c1] w fun e w' => e = .returned (.bool true) ∧ Below w.heap.size w w' := by
  have H1 : Hid (EvIn w A n g) := ⟨h1, hw1, Nat.le_trans hnc1 hc1⟩
  have HN : Hid (I64 N) := hN
  obtain ⟨a, ha⟩ : ∃ a, a = el g n := ⟨_, rfl⟩
  have HA := hid ha
  have hnl : el g 0 = [] := rfl
  clear h1 hw1 hnc1 hc1 hN ha
  go_enter Try.func5, Try.ntmps5
  go_wp2_with fail
  with_reducible refine (merges_ok _).mono ?_
  rintro e w1 ⟨rfl, hb1⟩
  have HB := hid hb1
  clear hb1
  go_wp2_with fail
  with_reducible refine (Both_any N _ (H1.out.keep HB.out) (H1.out.keep HB.out) HN.out).mono ?_
  rintro e w2 ⟨C, c, l, x, rfl, hlc, hl, hr, hb2⟩
  rw [← HA.out] at hl
  have HB := hid (bl_then HB.out hb2)
  have HL := hid hl
  have HR := hid hr
  clear hl hr hb2
  go_wp2_with fail
  with_reducible refine (Both_any (h := g) N _ (H1.out.keep HB.out) (EvIn.none_ _ _) HN.out).mono ?_
  rintro e w3 ⟨C2, d, m, y, rfl, hmd, hm, hr2, hb2⟩
  rw [← HA.out, hnl] at hm
  have HB := hid (bl_then HB.out hb2)
  have HR := hid (HR.out.keep hb2)
  have HM := hid hm
  have HR2 := hid hr2
  clear hm hr2 hb2
  go_wp2_with fail
  with_reducible refine (Behind_any N _ (H1.out.keep HB.out) (H1.out.keep HB.out) HN.out).mono ?_
  rintro e w4 ⟨C3, c3, k, x', rfl, hkc, hk, hr3, hb2⟩
  rw [← HA.out] at hk
  obtain ⟨hxx', hk3⟩ := hk.of HL.out
  obtain rfl : x = x' := hxx'.symm
  have HB := hid (bl_then HB.out hb2)
  have HR := hid (HR.out.keep hb2)
  have HR2 := hid (HR2.out.keep hb2)
  have HK := hid hk3
  clear hk hk3 hxx' hb2 hr3
  go_wp2_with fail
  with_reducible refine (Behind_any (g := g) N _ (EvIn.none_ _ _) (H1.out.keep HB.out) HN.out).mono ?_
  rintro e w5 ⟨C4, c4, o, z, rfl, hoc, ho, hr4, hb2⟩
  rw [← HA.out, hnl] at ho
  have HB := hid (bl_then HB.out hb2)
  have HR := hid (HR.out.keep hb2)
  have HR2 := hid (HR2.out.keep hb2)
  have HO := hid ho
  have HR4 := hid hr4
  have HI := hid (H1.out.keep HB.out)
  have HN1 := hid HN.out.1
  have HN2 := hid HN.out.2
  clear ho hr4 hb2
  go_wp2_with fail
  with_reducible refine (Check_any N _ HI.out.row HI.out.wf HI.out.len HN1.out HN2.out).mono ?_
  rintro e w6 ⟨he, hb2⟩
  rw [← HA.out] at he
  subst he
  have HB := hid (bl_then HB.out hb2)
  have HR := hid (HR.out.keep hb2)
  have HR2 := hid (HR2.out.keep hb2)
  have HR4 := hid (HR4.out.keep hb2)
  clear hb2 HI hnl
  obtain ⟨lz, hz1, hz2⟩ := HO.out
  have HZ1 := hid hz1
  have HZ2 := hid hz2
  clear hz1 hz2 HO
  by_cases he : Es.eErr N a = 0
  · obtain ⟨q, rfl, hq, _⟩ := err_nat he
    obtain ⟨hch, _, _, _⟩ := Es.err_ch he
    have enil : Es.eErr (q : Int) [] = 0 := by
      rcases err_nil (q : Int) a with c | c
      · exact c
      · rw [← c]; exact he
    obtain ⟨el1, rfl⟩ := HL.out.is_ he he (Es.ch_no_self hch) (Es.IsBo.self hch) he
    have hno : ∀ b : List Es.Ev, ¬ Es.Cls b [] := fun b => by rintro ⟨_, _, y, hy, _⟩; simp at hy
    have hno2 : ∀ b : List Es.Ev, ¬ Es.Cls [] b := fun b => by rintro ⟨y, hy, _⟩; simp at hy
    obtain ⟨em1, rfl⟩ := HM.out.is_ he enil (hno a) (Es.IsBo.nil hch) he
    obtain ⟨ez1, rfl⟩ := HZ1.out.is_ enil he (hno2 a) (Es.IsBo.nil' hch) he
    have ek : k = [] := HK.out.trans ((beh_zero _ _).trans (Es.beh_self a))
    have eo : o = a := HZ2.out.trans ((beh_zero _ _).trans (Es.beh_nil a))
    have hE1 := eqE_el (g := g) (n := n) (el1.trans HA.out)
    have hE2 := eqE_el (g := g) (n := n) (em1.trans HA.out)
    have hE3 := eqE_el (g := g) (n := n) (eo.trans HA.out)
    have hlen : ∀ M : List Es.Ev, M = a → M.length ≤ maxLen := fun M hM => by
      rw [hM]; exact Nat.le_trans (Es.err_ch he).2.2.1 (by decide)
    have HL1 := hid (hlen l el1)
    have HL2 := hid (hlen m em1)
    have HL3 := hid (hlen o eo)
    have HE1 := hid hE1
    have HE2 := hid hE2
    have HE3 := hid hE3
    subst ek
    rw [he]
    have hz4 := zeros4 w6 23
    have HNL := hid H1.out.len
    clear HL HM HK HZ1 HZ2 hch enil hno hno2 el1 em1 ez1 eo hE1 hE2 hE3 hlen he
    go_wp2_with fail
    with_reducible refine (good_ok _ 4 4 _ (by decide) hz4).mono ?_
    rintro e w7 ⟨rfl, rfl⟩
    have HB := hid (HB.out.alloc HB.out.size (.cells #[.int .i64 0, .int .i64 0, .int .i64 0, .int .i64 0] 23))
    have HR : Hid (EvRow (w6.alloc (.cells #[.int .i64 0, .int .i64 0, .int .i64 0, .int .i64 0] 23)) C l.length (fun k => l.getD k Es.none_)) := HR.out.keep (bl_new _ _)
    have HR2 : Hid (EvRow (w6.alloc (.cells #[.int .i64 0, .int .i64 0, .int .i64 0, .int .i64 0] 23)) C2 m.length (fun k => m.getD k Es.none_)) := HR2.out.keep (bl_new _ _)
    have HR4 : Hid (EvRow (w6.alloc (.cells #[.int .i64 0, .int .i64 0, .int .i64 0, .int .i64 0] 23)) C4 o.length (fun k => o.getD k Es.none_)) := HR4.out.keep (bl_new _ _)
    clear hz4
    go_wp2_with fail
    with_reducible refine (eequal_any HR.out (H1.out.keep HB.out).row HL1.out HNL.out).mono ?_
    rintro e w8 ⟨he, hd⟩
    rw [HE1.out] at he
    subst he
    have HB := hid (HB.out.trans (hd.below _))
    have HR2 := hid (HR2.out.keep (hd.below _))
    have HR4 := hid (HR4.out.keep (hd.below _))
    clear hd HR
    go_wp2_with fail
    with_reducible refine (eequal_any HR2.out (H1.out.keep HB.out).row HL2.out HNL.out).mono ?_
    rintro e w9 ⟨he, hd⟩
    rw [HE2.out] at he
    subst he
    have HB := hid (HB.out.trans (hd.below _))
    have HR4 := hid (HR4.out.keep (hd.below _))
    clear hd HR2
    go_wp2_with fail
    with_reducible refine (eequal_any HR4.out (H1.out.keep HB.out).row HL3.out HNL.out).mono ?_
    rintro e w10 ⟨he, hd⟩
    rw [HE3.out] at he
    subst he
    have HB := hid (HB.out.trans (hd.below _))
    clear hd HR4
    go_wp2
    go_ret
    exact ⟨rfl, HB.out⟩
  · have e1 := (HL.out.err (by rw [mg_self]; exact he)).1
    have e2 := (HM.out.err (by rw [mg_left]; exact he)).1
    have e3 := (HZ1.out.err (by rw [mg_right]; exact he)).1
    rw [mg_self] at e1
    rw [mg_left] at e2
    rw [mg_right] at e3
    obtain ⟨r, hr⟩ : ∃ r, r = Es.eErr N a := ⟨_, rfl⟩
    rw [← hr] at e1 e2 e3 he ⊢
    have hrr : (r != 0) = true := bne_iff_ne.2 he
    have hre : (r == r) = true := by simp
    obtain rfl : x = r := e1
    obtain rfl : y = x := e2
    obtain rfl : z = y := e3
    clear HL HM HK HZ1 HZ2 HR HR2 HR4 hr he
    go_wp2
    go_ret
    exact ⟨rfl, HB.out⟩
end Go.Proofs.Ytphbloibldljjaa
