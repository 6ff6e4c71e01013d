
/-
The contract of quillref.BehindOf.
-/
import Derived.Test.YtphbloibldljjaaRefBoth
import Derived.Test.YtphbloibldljjaaEdUn
import Derived.Deep.RegionLaw
namespace Go.Proofs.Ytphbloibldljjaa
open Go.RowKit

/-- One edit of the other script, as it stands behind A. -/
def bh (A : List Es.Ev) (x : Es.Ev) : Es.Ev := ⟨x.a + Es.upTo A x.a, x.d, x.s⟩
theorem beh_snoc (A B : List Es.Ev) (x : Es.Ev) : Es.behL A (B ++ [x]) = if Es.has A x = true then Es.behL A B else Es.behL A B ++ [bh A x] := by
  unfold Es.behL
  rw [List.filter_append, List.map_append, List.filter_cons]
  by_cases h : Es.has A x = true
  · rw [if_pos h, if_neg (by rw [h]; decide)]
    simp
  · rw [if_neg h, if_pos (by simpa using h)]
    simp [bh]
theorem beh_len (A : List Es.Ev) (h : Nat → Es.Ev) : ∀ k, (Es.behL A (el h k)).length ≤ k := fun k => by
  unfold Es.behL
  rw [List.length_map]
  have := List.length_filter_le (fun x => !Es.has A x) (el h k)
  rw [el_len] at this
  exact this
theorem EvBlk.set0 {w : World} {b : Nat} {x : Es.Ev} (h : EvBlk w b x) (z : Int) : EvBlk (w.setCell ⟨b, 0, none⟩ (.int .i64 z)) b ⟨z, x.d, x.s⟩ := by
  unfold EvBlk at h ⊢
  obtain ⟨hlt, hv⟩ := Array.getElem?_eq_some_iff.1 h
  simp [World.setCell, hlt, Array.getElem_modify, hv]
theorem EvBlk.frozen {w : World} {b : Nat} {x : Es.Ev} (h : EvBlk w b x) (j : Nat) : w.frozen? ⟨b, j, none⟩ = false := by
  unfold World.frozen?
  rw [h]
  simp
def fl (g : Nat → Es.Ev) (t : Int) (k : Nat) : List Es.Ev := (el g k).filter fun y => decide (y.a + y.d < t)
theorem fl_succ (g : Nat → Es.Ev) (t : Int) (k : Nat) : fl g t (k + 1) = if (g k).a + (g k).d < t then fl g t k ++ [g k] else fl g t k := by
  unfold fl
  rw [el_succ, List.filter_append, List.filter_cons]
  by_cases h : (g k).a + (g k).d < t
  · rw [if_pos h, if_pos (decide_eq_true h)]; rfl
  · rw [if_neg h, if_neg (by simpa using h)]; simp
theorem fl_len (g : Nat → Es.Ev) (t : Int) (k : Nat) : (fl g t k).length ≤ k := by
  have := List.length_filter_le (fun y : Es.Ev => decide (y.a + y.d < t)) (el g k)
  rw [el_len] at this
  exact this
theorem fl_in {g : Nat → Es.Ev} {t : Int} {k : Nat} {x : Es.Ev} (h : x ∈ fl g t k) : x ∈ el g k := (List.mem_filter.1 h).1
set_option maxHeartbeats 4000000 in
set_option maxRecDepth 100000 in
theorem behindOf_any {A B : Option Addr} {n m c1 c2 : Nat} {g h : Nat → Es.Ev} (N : Nat) (w : World) (hr1 : EvRow w A n g) (hr2 : EvRow w B m h) (he1 : Es.eErr N (el g n) = 0) (he2 : Es.eErr N (el h m) = 0) :
    Calls Try.prog 13 #[.slice A n c1, .slice B m c2] w fun e w' => ∃ (C : Option Addr) (c : Nat), e = .returned (.slice C (Es.behL (el g n) (el h m)).length c) ∧ (Es.behL (el g n) (el h m)).length ≤ c ∧ EvRow w' C (Es.behL (el g n) (el h m)).length (fun k => (Es.behL (el g n) (el h m)).getD k Es.none_) ∧ Below w.heap.size w w' := by
  have hn : n ≤ 20 := by have := (Es.err_ch he1).2.2.1; rw [el_len] at this; exact this
  have hm : m ≤ 20 := by have := (Es.err_ch he2).2.2.1; rw [el_len] at this; exact this
  have hbd : ∀ x, x ∈ el g n → -1000000 ≤ (x.s.size : Int) - x.d ∧ (x.s.size : Int) - x.d ≤ 1000000 := fun x hx => by
    obtain ⟨hc, h2, _, _⟩ := Es.err_ch he1
    have := Es.ch_mem hc hx
    omega
  have H1 := hid hr1
  have H2 := hid hr2
  have HBD := hid hbd
  have HB1 : Hid (∀ k, k < n → Bn (g k)) := fun k hk => bn_of he1 (el_in hk)
  have HB2 : Hid (∀ k, k < m → Bn (h k)) := fun k hk => bn_of he2 (el_in hk)
  have hnm : n ≤ maxLen := Nat.le_trans hn (by decide)
  clear hr1 hr2 he1 he2 hbd
  go_enter Try.func13, Try.ntmps13
  go_wp2
  go_loopw [5, 13] (fun v x wr => ∃ (k : Nat) (vv : Value), vv = v ∧ k ≤ m ∧ x = .int .i64 (k : Int) ∧ Hid (OwnE wr w.heap.size vv (Es.behL (el g n) (el h k))) ∧ Hid (Below w.heap.size w wr)) (fun _ x _ => m - (intOf x).toNat)
  case atStart => exact ⟨0, _, rfl, by omega, rfl, OwnE.zero _ _, Below.refl _ _⟩
  case round =>
    obtain ⟨k, vv, rfl, hk, rfl, HV, HB⟩ := hrel
    have hle1 : w.heap.size ≤ wr.heap.size := HB.out.size
    by_cases hkm : k < m
    · obtain ⟨b, o, rfl, hlt, c0, c1', c2'⟩ := (H2.out.keep HB.out) k hkm
      have hkm' : (k : Int) < (m : Int) := by omega
      obtain ⟨x, hx⟩ : ∃ x, x = h k := ⟨_, rfl⟩
      have HX := hid hx
      rw [← hx] at c0 c1' c2'
      have hbx := HB2.out k hkm
      rw [← hx] at hbx
      have HBX := hid hbx
      obtain ⟨hca0, hca1, hca2⟩ := ev_new wr x 30
      have HBLK := hid (EvBlk.new wr x _ rfl)
      have HB3 := hid (bl_then HB.out (bl_new wr (.cells #[.int .i64 x.a, .int .i64 x.d, .string x.s] 30)))
      have HV3 : Hid (OwnE (wr.alloc (.cells #[.int .i64 x.a, .int .i64 x.d, .string x.s] 30)) w.heap.size vv (Es.behL (el g n) (el h k))) := HV.out.alloc _
      have HVL := hid HV.out.lt_
      have HR1 := hid (H1.out.keep HB3.out)
      have HLEN : Hid ((Es.behL (el g n) (el h k)).length ≤ k) := beh_len _ _ _
      clear hx hbx
      go_wp2_with fail
      with_reducible refine (evHas_any x _ HR1.out hnm).mono ?_
      rintro e w1 ⟨rfl, hb2⟩
      have HB4 := hid (bl_then HB3.out hb2)
      have HV4 := hid (HV3.out.low hb2)
      have HBLK4 : Hid (EvBlk w1 wr.heap.size x) := (hb2.block wr.heap.size (by simp)).trans HBLK.out
      have hsz1 : wr.heap.size < w1.heap.size := (Array.getElem?_eq_some_iff.1 HBLK4.out).1
      have HSN : Hid (Es.behL (el g n) (el h (k + 1)) = if Es.has (el g n) x = true then Es.behL (el g n) (el h k) else Es.behL (el g n) (el h k) ++ [bh (el g n) x]) := by
        show _ = _
        rw [el_succ, beh_snoc, HX.out]
      clear hb2 HV3 HB3 HBLK hca0 hca1 hca2
      by_cases hh : Es.has (el g n) x = true
      · have HV5 : Hid (OwnE w1 w.heap.size vv (Es.behL (el g n) (el h (k + 1)))) := by
          have := HSN.out
          rw [if_pos hh] at this
          show OwnE _ _ _ _
          rw [this]
          exact HV4.out
        rw [hh]
        clear hh HSN HV4
        go_wp2
        go_roundw
        case measure => simp [intOf]; omega
        case rel => exact ⟨k + 1, vv, rfl, by omega, by go_num, HV5, HB4⟩
      · have HSN : Hid (Es.behL (el g n) (el h (k + 1)) = Es.behL (el g n) (el h k) ++ [bh (el g n) x]) := by
          have := HSN.out
          rw [if_neg hh] at this
          exact this
        have hh := Bool.eq_false_iff.2 hh
        rw [hh]
        have HR1b := hid (H1.out.keep HB4.out)
        clear hh HR1
        obtain ⟨P, hP⟩ : ∃ P, P = wr.heap.size := ⟨_, rfl⟩
        rw [← hP] at HBLK4 hsz1 hle1 HVL
        have HPQ := hid hP
        clear hP HB HV
        go_wp2
        rw [← HPQ.out]
        clear HPQ
        generalize wr = w6 at *
        go_loopw [8, 22] (fun v y w7 => ∃ (i : Nat) (vv2 : Value), vv2 = v ∧ i ≤ n ∧ y = .int .i64 (i : Int) ∧ Hid (OwnE w7 w1.heap.size vv2 (fl g x.a i)) ∧ Hid (Below w1.heap.size w1 w7)) (fun _ y _ => n - (intOf y).toNat)
        case atStart => exact ⟨0, _, rfl, by omega, rfl, OwnE.zero _ _, Below.refl _ _⟩
        case round =>
          obtain ⟨i, vv2, rfl, hi, rfl, HO, HW⟩ := hrel
          have HBLK7 : Hid (EvBlk wr P x) := (HW.out.block P hsz1).trans HBLK4.out
          obtain ⟨x0, x1, x2⟩ := HBLK7.out.cells
          have hle7 : w1.heap.size ≤ wr.heap.size := HW.out.size
          by_cases hin : i < n
          · obtain ⟨b2, o2, rfl, hlt2, d0, d1, d2⟩ := (HR1b.out.keep HW.out) i hin
            have hin' : (i : Int) < (n : Int) := by omega
            obtain ⟨y, hy⟩ : ∃ y, y = g i := ⟨_, rfl⟩
            have HY := hid hy
            rw [← hy] at d0 d1 d2
            obtain ⟨y1, y2, y3, y4⟩ := HB1.out i hin
            rw [← hy] at y1 y2 y3 y4
            obtain ⟨x1', x2', _, _⟩ := HBX.out
            have hwy : IntKind.i64.wrap (y.a + y.d) = y.a + y.d := IntWalk.i64_in _ (by omega)
            have HBY := hid (EvBlk.new wr y _ rfl)
            obtain ⟨e0, e1, e2⟩ := HBY.out.cells
            have HW2 := hid (HW.out.alloc hle7 (.cells #[.int .i64 y.a, .int .i64 y.d, .string y.s] 30))
            have HO2 : Hid (OwnE (wr.alloc (.cells #[.int .i64 y.a, .int .i64 y.d, .string y.s] 30)) w1.heap.size vv2 (fl g x.a i)) := HO.out.alloc _
            have HBLK8 : Hid (EvBlk (wr.alloc (.cells #[.int .i64 y.a, .int .i64 y.d, .string y.s] 30)) P x) := HBLK7.out.alloc _
            obtain ⟨z0, z1, z2⟩ := HBLK8.out.cells
            have HSC : Hid (fl g x.a (i + 1) = if y.a + y.d < x.a then fl g x.a i ++ [y] else fl g x.a i) := by show _ = _; rw [HY.out]; exact fl_succ _ _ _
            have hfl : (fl g x.a i).length < 1000000 := by have := fl_len g x.a i; omega
            clear hy HO HW x0 x1 x2 y1 y2 y3 y4 x1' x2'
            by_cases ht : y.a + y.d < x.a
            · have ht' : decide (y.a + y.d < x.a) = true := decide_eq_true ht
              have HSC : Hid (fl g x.a (i + 1) = fl g x.a i ++ [y]) := by have := HSC.out; rw [if_pos ht] at this; exact this
              have hN8 : (wr.alloc (.cells #[.int .i64 y.a, .int .i64 y.d, .string y.s] 30)).heap.size = wr.heap.size + 1 := by simp
              have hsz8 : w1.heap.size ≤ wr.heap.size + 1 := by omega
              clear ht
              go_wp2_with (at_builtin; with_reducible refine app_ev (x := y) rfl _ _ rfl rfl HO2.out (wr.heap.size + 1) hN8 rfl hsz8 (fl g x.a i).length rfl hfl ?_)
              intro g' cap w8 hown hgr
              rw [← HSC.out] at hown
              have HO8 := hid hown
              have HW8 : Hid (Below w1.heap.size w1 w8) := hid (HW2.out.grown hgr HW2.out.size fun k hk => (HO2.out.lt_ k hk).1)
              clear hown hgr hN8 hsz8 e0 e1 e2 z0 z1 z2 HO2 HW2 HBLK8 HBY
              go_wp2
              go_roundw
              case measure => simp [intOf]; omega
              case rel => exact ⟨i + 1, _, rfl, by omega, by go_num, HO8, HW8⟩
            · have ht' : decide (y.a + y.d < x.a) = false := decide_eq_false ht
              have HSC : Hid (fl g x.a (i + 1) = fl g x.a i) := by have := HSC.out; rw [if_neg ht] at this; exact this
              have HO9 : Hid (OwnE (wr.alloc (.cells #[.int .i64 y.a, .int .i64 y.d, .string y.s] 30)) w1.heap.size vv2 (fl g x.a (i + 1))) := by show OwnE _ _ _ _; rw [HSC.out]; exact HO2.out
              clear ht
              go_wp2
              go_roundw
              case measure => simp [intOf]; omega
              case rel => exact ⟨i + 1, vv2, rfl, by omega, by go_num, HO9, HW2⟩
          · obtain rfl : i = n := by omega
            have hkd : decide ((i : Int) < (i : Int)) = false := decide_eq_false (by omega)
            obtain ⟨A9, c9, rfl, hc9, hrow⟩ := HO.out.row
            have HROW := hid hrow
            have hl1000 : (fl g x.a i).length ≤ 1000 := by have := fl_len g x.a i; omega
            have hgb : ∀ j, j < (fl g x.a i).length → -1000000 ≤ (((fl g x.a i).getD j Es.none_).s.size : Int) - ((fl g x.a i).getD j Es.none_).d ∧ (((fl g x.a i).getD j Es.none_).s.size : Int) - ((fl g x.a i).getD j Es.none_).d ≤ 1000000 := fun j hj => by
              rw [List.getD_eq_getElem?_getD, List.getElem?_eq_getElem hj]
              exact HBD.out _ (fl_in (List.getElem_mem hj))
            have hgr := gro_small hgb (fl g x.a i).length (Nat.le_refl _)
            rw [el_of] at hgr
            obtain ⟨z, hz⟩ : ∃ z, z = Es.gro (fl g x.a i) := ⟨_, rfl⟩
            rw [← hz] at hgr
            have HZ := hid hz
            have HZU : Hid (bh (el g i) x = ⟨x.a + z, x.d, x.s⟩) := by show _ = _; rw [hz]; rfl
            have HGB := hid hgb
            have hlz : (fl g x.a i).length ≤ 20 := by have := fl_len g x.a i; omega
            obtain ⟨x1', x2', _, _⟩ := HBX.out
            have hwz : IntKind.i64.wrap (x.a + z) = x.a + z := IntWalk.i64_in _ (by omega)
            have hPlt : P < wr.drew.heap.size := Nat.lt_of_lt_of_le hsz1 hle7
            have HROWd : Hid (EvRow wr.drew A9 (fl g x.a i).length (fun k => (fl g x.a i).getD k Es.none_)) := hrow
            have HL1000 := hid hl1000
            clear hgb hgr hz hrow hl1000 x1 x2 hlz x1' x2'
            go_wp2
            go_region_law (go_simp; go_at_call 26; (with_reducible refine (Grows_ok _ HROWd.out HL1000.out HGB.out).mono ?_); rintro e w8 ⟨he, hb8⟩; rw [el_of, ← HZ.out] at he; subst he; have K8 := (hb8.cell (p := ⟨P, 0, none⟩) hPlt).trans x0; have F8 : w8.frozen? ⟨P, 0, none⟩ = false := (World.frozen?_of_block (w := wr.drew) (w' := w8) (a := ⟨P, 0, none⟩) (hb8.block P hPlt)).trans (HBLK7.out.frozen 0))
            all_goals (
              have HX9 := hid (EvBlk.set0 (show EvBlk w8 P x from (hb8.block P hPlt).trans HBLK7.out) (x.a + z))
              have HB8 : Hid (Below w.heap.size w w8) := bl_then (bl_then HB4.out (bl_drewN HW.out 1)) hb8
              have HB9 : Hid (Below w.heap.size w (w8.setCell ⟨P, 0, none⟩ (.int .i64 (x.a + z)))) := HB8.out.setCell hle1 _
              have HV9 : Hid (OwnE (w8.setCell ⟨P, 0, none⟩ (.int .i64 (x.a + z))) w.heap.size vv (Es.behL (el g i) (el h k))) :=
                (HV4.out.low (bl_then (bl_drewN HW.out 1) hb8)).of_block fun q hq => Below.heap_setCell _ _ _ q (fun e => by have e2 : q = P := e; have := (HVL.out q hq).2; omega)
              have hlb : (Es.behL (el g i) (el h k)).length < 1000000 := by have := HLEN.out; omega
              clear hb8 K8 F8 x0 HB8 HV4 HBLK7 HBLK4 HW HROW HROWd HO HB4
              generalize w8.setCell ⟨P, 0, none⟩ (.int .i64 (x.a + z)) = w9 at *
              obtain ⟨y0, y1, y2⟩ := HX9.out.cells
              try simp only at y0 y1 y2
              go_wp2_with (at_builtin; with_reducible refine app_ev (x := ⟨x.a + z, x.d, x.s⟩) rfl _ _ rfl rfl HV9.out w9.heap.size rfl rfl HB9.out.size (Es.behL (el g i) (el h k)).length rfl hlb ?_)
              intro g' cap w10 hown hgr
              have HV10 : Hid (OwnE w10 w.heap.size (.slice (some ⟨g', 0, none⟩) ((Es.behL (el g i) (el h k)).length + 1) cap) (Es.behL (el g i) (el h (k + 1)))) := by
                show OwnE _ _ _ _
                rw [HSN.out, HZU.out]
                exact hown
              have HB10 : Hid (Below w.heap.size w w10) := hid (HB9.out.grown hgr HB9.out.size fun q hq => (HV9.out.lt_ q hq).1)
              clear hown hgr y0 y1 y2 HX9 HV9 HB9
              go_wp2
              go_roundw
              case measure => simp [intOf]; omega
              case rel => exact ⟨k + 1, _, rfl, by omega, by go_num, HV10, HB10⟩)
    · obtain rfl : k = m := by omega
      have hkd : decide ((k : Int) < (k : Int)) = false := decide_eq_false (by omega)
      obtain ⟨A9, c9, rfl, hc9, hrow⟩ := HV.out.row
      have HROW := hid hrow
      clear hrow HV
      go_wp2
      go_ret
      exact ⟨A9, c9, rfl, hc9, HROW.out, HB.out⟩
end Go.Proofs.Ytphbloibldljjaa
