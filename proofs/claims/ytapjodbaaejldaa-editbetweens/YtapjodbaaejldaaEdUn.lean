
/-
The contract of edit.Undo.
-/
import Derived.Test.YtapjodbaaejldaaEdAp
namespace Go.Proofs.Ytapjodbaaejldaa
open Go.RowKit

theorem EvBlk.grown {w w' : World} {b : Nat} {x : Es.Ev} {row : Option Nat} (h : EvBlk w b x) (hg : w.grownBy w' row) (hr : some b ≠ row) : EvBlk w' b x := by
  obtain ⟨hlt, _⟩ := Array.getElem?_eq_some_iff.1 h
  exact (hg.block b hlt hr).trans h
theorem EvBlk.alloc {w : World} {b : Nat} {x : Es.Ev} (h : EvBlk w b x) (o : Obj) : EvBlk (w.alloc o) b x := by
  obtain ⟨hlt, _⟩ := Array.getElem?_eq_some_iff.1 h
  exact (Below.heap_alloc w o b hlt).trans h
set_option maxHeartbeats 2000000 in
theorem Undo_any {A : Option Addr} {n c : Nat} {h : Nat → Es.Ev} (s : ByteArray) (w : World) (hr : EvRow w A n h) (hw : ∀ k, k < n → EvWf (h k)) (hn : n ≤ maxLen) (hs : s.size ≤ maxLen) :
    Calls Try.prog 15 #[.string s, .slice A n c] w fun e w' => ∃ (B : Option Addr) (d : Nat) (M : List Es.Ev) (x : Int), e = .returned (.tuple #[.slice B M.length d, .int .i64 x]) ∧ M.length ≤ d ∧ UnIs s (el h n) M x ∧ EvRow w' B M.length (fun k => M.getD k Es.none_) ∧ Below w.heap.size w w' := by
  have hs2 : (s.size : Int) ≤ 9223372036854775807 := by unfold maxLen at hs; omega
  have hC := Check_any (c := c) (s.size : Int) w hr hw hn (by omega) hs2
  have H := hid hr
  clear hr hw hn hs hs2
  by_cases hE : Es.eErr (s.size : Int) (el h n) = 0
  · obtain ⟨G, q, hS⟩ := Es.scr_of (s := lst s) (by rw [lst_len]; exact hE)
    obtain ⟨hn20, hs200, hbd⟩ := scr_small hS
    have hlen := hS.len
    rw [el_len] at hlen
    rw [hE] at hC
    have HE := hid hE
    have HS := hid hS
    have HLEN := hid hlen
    have HBD := hid hbd
    have HST0 : Hid (Es.St (lst s) (el h n) G q 0 []) := hS.st
    have HM0 : Hid (([] : List Es.Ev) ++ Es.evs 0 ((G.drop 0).map Es.swp) = Es.evs 0 (G.map Es.swp)) := by show _ = _; rw [List.nil_append, List.drop_zero]
    clear hS hlen hE hbd
    go_enter Try.func15, Try.ntmps15
    go_wp2_with fail
    with_reducible refine hC.mono ?_
    rintro e w1 ⟨rfl, hb1⟩
    have HR1 := hid (H.out.keep hb1)
    have HBW := hid hb1
    clear hC hb1 H
    go_wp2
    go_loopw [7, 8, 21] (fun v u x wr => ∃ k m : Nat, ∃ (P : List UInt8) (M : List Es.Ev) (vv : Value), vv = v ∧ k ≤ n ∧ x = .int .i64 (k : Int) ∧ u = .int .i64 (Es.gro (el h k)) ∧ Hid (Es.St (lst s) (el h n) G q k P) ∧ Hid (∀ j, j < k → (h j).d ≤ 40) ∧ Hid (M.length = k) ∧ Hid ((m : Int) = (P.length : Int) + Es.gro (el h k)) ∧ Hid (M ++ Es.evs m ((G.drop k).map Es.swp) = Es.evs 0 (G.map Es.swp)) ∧ Hid (OwnE wr w1.heap.size vv M) ∧ Hid (Below w1.heap.size w1 wr)) (fun _ _ x _ => n - (intOf x).toNat)
    case atStart => exact ⟨0, 0, [], [], _, rfl, by omega, rfl, rfl, HST0, fun j hj => absurd hj (Nat.not_lt_zero _), rfl, rfl, HM0, OwnE.zero _ _, Below.refl _ _⟩
    case round =>
      clear HST0 HM0
      obtain ⟨k, m, P, M, vv, rfl, hk, rfl, rfl, HST, HFW, HML, HMP, HM, HV, HB⟩ := hrel
      have hle1 : w1.heap.size ≤ wr.heap.size := HB.out.size
      by_cases hkn : k < n
      · obtain ⟨b, o, rfl, hlt, c0, c1, c2⟩ := (HR1.out.keep HB.out) k hkn
        have hkn' : (k : Int) < (n : Int) := by omega
        obtain ⟨g, hgG, hGd, hx, hst2, e1, e2, e3⟩ := HST.out.next (by have := HLEN.out; omega)
        rw [el_at hkn] at hx
        rw [lst_len] at e3
        have hi40 : g.i.length ≤ 40 := Es.gd_mem HS.out.good g hgG
        obtain ⟨a, ha⟩ : ∃ a, a = P.length + g.p.length := ⟨_, rfl⟩
        obtain ⟨d, hd⟩ : ∃ d, d = g.d.length := ⟨_, rfl⟩
        obtain ⟨y, hy⟩ : ∃ y, y = mkS g.i := ⟨_, rfl⟩
        obtain ⟨t, ht⟩ : ∃ t, t = Es.gro (el h k) := ⟨_, rfl⟩
        have hys : y.size = g.i.length := by rw [hy, mk_size]
        have hads : a + d ≤ s.size := by omega
        have hmp := HMP.out
        have hgk1 := gro_succ h k
        rw [← ha, ← hd, ← hy] at hx
        rw [hx] at c0 c1 c2 hgk1
        rw [← ht] at hmp hgk1 ⊢
        obtain ⟨z, hz⟩ : ∃ z, z = m + g.p.length := ⟨_, rfl⟩
        have hzb : z ≤ 100000000 := by
          have := gro_small HBD.out k hk
          omega
        have hzt : (a : Int) + t = (z : Int) := by omega
        obtain ⟨ad, had⟩ : ∃ ad, ad = a + d := ⟨_, rfl⟩
        have hadE : (a : Int) + (d : Int) = (ad : Int) := by omega
        have hq1 : s.extract a ad = mkS g.d := by
          apply lst_inj_
          rw [lst_mk, lst_mid, had, Nat.add_sub_cancel_left, ha, hd]; exact e2
        have HM2 : Hid ((M ++ [⟨(z : Int), (y.size : Int), s.extract a ad⟩]) ++ Es.evs (z + y.size) ((G.drop (k + 1)).map Es.swp) = Es.evs 0 (G.map Es.swp)) := by
          show _ = _
          rw [← HM.out, hGd, List.append_assoc]
          congr 1
          simp only [List.map_cons, Es.evs, Es.swp]
          rw [hq1, hys, ← hz]
          rfl
        have HMP2 : Hid (((z + y.size : Nat) : Int) = ((P ++ g.p ++ g.d).length : Int) + Es.gro (el h (k + 1))) := by
          show _ = _
          rw [hgk1, List.length_append, List.length_append]
          simp only []
          omega
        have HG1 : Hid (Es.gro (el h (k + 1)) = t + ((y.size : Int) - (d : Int))) := hgk1
        have hgb : -1000000 ≤ (y.size : Int) - (d : Int) ∧ (y.size : Int) - (d : Int) ≤ 1000000 := by omega
        have htb : -30000000 ≤ t ∧ t ≤ 30000000 := by
          have := gro_small HBD.out k hk
          omega
        have HFX : Hid (d ≤ 40 → ∀ j, j < k + 1 → (h j).d ≤ 40) := fun hh j hj => by
          by_cases e : j = k
          · rw [e, hx]; show (d : Int) ≤ 40; omega
          · exact HFW.out j (by omega)
        have HFN : Hid (¬ d ≤ 40 → ¬ Es.Few (el h n)) := fun hh hf => by
          have := hf (h k) (by unfold el; exact List.mem_map.2 ⟨k, List.mem_range.2 hkn, rfl⟩)
          rw [hx] at this
          have h2 : (d : Int) ≤ 40 := this
          omega
        have HST2 := hid hst2
        have HML2 : Hid ((M ++ [(⟨(z : Int), (y.size : Int), s.extract a ad⟩ : Es.Ev)]).length = k + 1) := by show _ = _; rw [List.length_append, HML.out]; rfl
        have hadw : IntKind.i64.wrap (ad : Int) = (ad : Int) := IntWalk.i64_in _ (by omega)
        have hzw : IntKind.i64.wrap (z : Int) = (z : Int) := IntWalk.i64_in _ (by omega)
        have htw : IntKind.i64.wrap (t + ((y.size : Int) - (d : Int))) = t + ((y.size : Int) - (d : Int)) := IntWalk.i64_in _ (by omega)
        have ha0 : (0 : Int) ≤ (a : Int) := by omega
        have haad : (a : Int) ≤ (ad : Int) := by omega
        have hads' : (ad : Int) ≤ (s.size : Int) := by omega
        have HGB := hid hgb
        have HX := hid (EvBlk.new wr ⟨(a : Int), (d : Int), y⟩ _ rfl)
        obtain ⟨hca0, hca1, hca2⟩ := HX.out.cells
        have HB2 := hid (HB.out.alloc hle1 (.cells #[.int .i64 (a : Int), .int .i64 (d : Int), .string y] 36))
        have HV2 : Hid (OwnE (wr.alloc (.cells #[.int .i64 (a : Int), .int .i64 (d : Int), .string y] 36)) w1.heap.size vv M) := HV.out.alloc _
        have HVL := hid HV.out.lt_
        try simp only at hca0 hca1 hca2 c0 c1 c2
        clear HST HFW HMP HM HV hGd hx hst2 e1 e2 e3 hgG hi40 ha hd hy hys hmp hgk1 ht hz hq1 had hgb htb hzb
        by_cases hd40 : d ≤ 40
        · have hd' : decide ((40 : Int) < (d : Int)) = false := decide_eq_false (by omega)
          have HF2 := hid (HFX.out hd40)
          clear HFX HFN hd40
          have hN6 : (wr.alloc (.cells #[.int .i64 (a : Int), .int .i64 (d : Int), .string y] 36)).heap.size = wr.heap.size + 1 := by simp
          have hsz7 : w1.heap.size ≤ wr.heap.size + 1 := by omega
          have hk1m : k < 1000000 := by omega
          go_wp2_with (at_builtin; with_reducible refine app_ev (x := ⟨(z : Int), (y.size : Int), s.extract a ad⟩) rfl _ _ rfl rfl HV2.out (wr.heap.size + 1) hN6 rfl hsz7 k HML.out hk1m ?_)
          intro g' cap w7 hown hgr
          have HV7 := hid hown
          have HX7 : Hid (EvBlk w7 wr.heap.size ⟨(a : Int), (d : Int), y⟩) := HX.out.grown hgr (fun e => by have := (HVL.out _ e.symm).2; omega)
          have HB7 : Hid (Below w1.heap.size w1 w7) := hid (HB2.out.grown hgr HB2.out.size fun k hk => (HV2.out.lt_ k hk).1)
          clear hown hgr HV2 HB2 HX hN6 hsz7 hca0 hca1 hca2 HVL
          obtain ⟨hca0, hca1, hca2⟩ := HX7.out.cells
          try simp only at hca0 hca1 hca2
          go_wp2_with fail
          with_reducible refine (growth_ok ⟨(a : Int), (d : Int), y⟩ _ HGB.out).mono ?_
          rintro e w8 ⟨rfl, hb8⟩
          have HB8 := hid (HB7.out.trans (hb8.mono HB7.out.size))
          have HV8 := hid (HV7.out.low hb8)
          clear hb8 HV7 HB7 hca0 hca1 hca2
          go_wp2
          go_roundw
          case rel => exact ⟨k + 1, z + y.size, P ++ g.p ++ g.d, M ++ [⟨(z : Int), (y.size : Int), s.extract a ad⟩], _, rfl, by omega, by go_num, by rw [HG1.out], HST2, HF2, HML2, HMP2, HM2, HV8, HB8⟩
          case measure => simp [intOf]; omega
        · have hd' : decide ((40 : Int) < (d : Int)) = true := decide_eq_true (by omega)
          have HNF := hid (HFN.out hd40)
          clear HFX HFN hd40
          go_wp2
          go_ret2
          exact ⟨none, 0, [], 2, rfl, Nat.le_refl _, .inr (.inl ⟨HE.out, HNF.out, rfl, rfl⟩), fun k hk => absurd hk (Nat.not_lt_zero _), bl_then HBW.out HB2.out⟩
      · obtain rfl : k = n := by omega
        have hkd : decide ((k : Int) < (k : Int)) = false := decide_eq_false (by omega)
        have hM : M = Es.evs 0 (G.map Es.swp) := by
          have := HM.out
          rw [List.drop_eq_nil_of_le (show G.length ≤ k by have := HLEN.out; omega)] at this
          simpa [Es.evs] using this
        have hfew : Es.Few (el h k) := fun x hx => by
          unfold el at hx
          obtain ⟨j, hj, rfl⟩ := List.mem_map.1 hx
          exact HFW.out j (List.mem_range.1 hj)
        obtain ⟨A2, c2, rfl, hc2, hr2⟩ := HV.out.row
        have HR2 := hid hr2
        have HM' := hid hM
        have HFE := hid hfew
        clear hM hfew hr2 HV HM HMP HST HFW
        go_wp2
        go_ret2
        exact ⟨A2, c2, M, 0, rfl, hc2, .inr (.inr ⟨rfl, G, q, HS.out, HFE.out, HM'.out⟩), HR2.out, bl_then HBW.out HB.out⟩
  · have hne : (Es.eErr (s.size : Int) (el h n) != 0) = true := bne_iff_ne.2 hE
    obtain ⟨x, hx⟩ : ∃ x, x = Es.eErr (s.size : Int) (el h n) := ⟨_, rfl⟩
    rw [← hx] at hC hne hE
    have HX := hid hx
    have HE := hid hE
    clear hx hE
    go_enter Try.func15, Try.ntmps15
    go_wp2_with fail
    with_reducible refine hC.mono ?_
    rintro e w1 ⟨rfl, hb1⟩
    clear hC
    go_wp2
    go_ret2
    exact ⟨none, 0, [], x, rfl, Nat.le_refl _, .inl ⟨HE.out, HX.out, rfl⟩, fun k hk => absurd hk (Nat.not_lt_zero _), hb1⟩
end Go.Proofs.Ytapjodbaaejldaa
