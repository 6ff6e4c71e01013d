
/-
quilllaw.FrontSays: whatever s, l, runs: it answers true.
-/
import Derived.Test.YthebjelkmopboaaFrBad
import Derived.Test.YthebjelkmopboaaFrWholly
import Derived.Test.YthebjelkmopboaaRefAgo
import Derived.Test.YthebjelkmopboaaAlike
import Derived.Test.YthebjelkmopboaaLong
import Derived.Test.YthebjelkmopboaaApp
import Derived.Deep.Cut
import Derived.Deep.CutRange
namespace Go.Proofs.Ythebjelkmopboaa
open Go.RowKit

/-- quillref.Long at one string, whatever it is. -/
theorem long_any {s : ByteArray} {b : Nat} (w : World) (hc : w.cell? ⟨b, 0, none⟩ = some (.string s)) :
    Calls Try.prog 13 #[.slice (some ⟨b, 0, none⟩) 1 1] w fun e w' => (∃ x : Nat, e = .returned (.int .i64 (x : Int)) ∧ ((s.size ≤ 200 ∧ x = 0) ∨ (200 < s.size ∧ x = 2))) ∧ w = w' := by
  by_cases hs : s.size ≤ 200
  · refine (long_ok s b w hc hs).mono ?_
    rintro e w' ⟨rfl, rfl⟩
    exact ⟨⟨0, rfl, .inl ⟨hs, rfl⟩⟩, rfl⟩
  · refine (long_large s b w hc (by omega)).mono ?_
    rintro e w' ⟨rfl, rfl⟩
    exact ⟨⟨2, rfl, .inr ⟨by omega, rfl⟩⟩, rfl⟩
theorem ago_row {s : ByteArray} {w' : World} {base : Nat} {v : Value} (h : OwnI w' base v (ni (Fm.putL (lst s)))) : ∃ A c, v = .slice A s.size c ∧ IRow w' A s.size (pg s) := by
  obtain ⟨A, c, e, hr⟩ := h.irow
  rw [ni_len, Fm.putL_len, lst_len] at e hr
  exact ⟨A, c, e, hr.congr fun k _ => ni_getD _ k⟩
set_option maxHeartbeats 8000000 in
set_option maxRecDepth 100000 in
theorem frontSays_walk (s : ByteArray) (A : Option Addr) (n c : Nat) (g : Nat → Int) (B : Option Addr) (m d : Nat) (h : Nat → Rm.R) (w : World) (_hs : s.size ≤ 140737488351232) (hr : IRow w A n g) (_hc : n ≤ c) (hn8 : n * 8 ≤ 140737488351232) (hr2 : RRow w B m h) (hm : m ≤ d) (hdm : d ≤ maxLen) :
    Calls Try.prog 3 #[.string s, .slice A n c, .slice B m d] w fun e w' => e = .returned (.bool true) ∧ Below w.heap.size w w' := by
  have hmm : m ≤ maxLen := Nat.le_trans hm hdm
  obtain ⟨J, hJ⟩ : ∃ J, J = Rm.whole (rs h m) := ⟨_, rfl⟩
  have hfst := Rm.whole_fst (L := rs h m)
  rw [← hJ] at hfst
  obtain ⟨ws, hws⟩ : ∃ ws, ws = mkS J.2 := ⟨_, rfl⟩
  obtain ⟨jh, hjh⟩ : ∃ jh, jh = J.1 := ⟨_, rfl⟩
  have hwh := fun w1 (h1 : RRow w1 B m h) => FWhole_any (c := d) w1 h1 hmm
  unfold WholeIs at hwh
  simp only [← hJ, ← hws, ← hjh] at hwh
  rw [← hjh] at hfst
  have HF := hid hfst
  have HJ : Hid (Rm.wl (pvB h 0) [] ((rs h m).drop 0) = J) := hJ.symm
  have HWS := hid hws
  have HJH := hid hjh
  have HWH := hid hwh
  have HL0 := hid hr
  have HR0 := hid hr2
  clear hr hr2 hJ hfst hws hjh hwh hm hdm
  go_enter Try.func3, Try.ntmps3
  go_wp2_with fail
  with_reducible refine (FPut_any s _).mono ?_
  rintro e w1 ⟨Ap, np, cp, xp, rfl, hput, hb⟩
  have HB1 := hid hb
  have HL1 := hid (HL0.out.keep hb)
  have HR1 := hid (HR0.out.keep hb)
  have HP1 := hid hput
  clear hb hput HL0 HR0
  go_wp2_with fail
  with_reducible refine (FGet_any _ HL1.out).mono ?_
  rintro e w2 ⟨⟨t, f, rfl, hget⟩, hb⟩
  have HB2 := hid (bl_then HB1.out hb)
  have HL2 := hid (HL1.out.keep hb)
  have HR2 := hid (HR1.out.keep hb)
  have HP2 : Hid ((s.size ≤ 200 ∧ xp = 0 ∧ np = s.size ∧ IRow w2 Ap np (pg s)) ∨ (200 < s.size ∧ xp = 2 ∧ np = 0)) := HP1.out.imp (fun h => ⟨h.1, h.2.1, h.2.2.1, h.2.2.2.keep hb⟩) id
  have HG := hid hget
  clear hb hget HB1 HL1 HR1 HP1
  go_wp2_with fail
  with_reducible refine (FRuns_any s _).mono ?_
  rintro e w3 ⟨Ar, nr, cr, xr, rfl, hrun, hb⟩
  have HB3 := hid (bl_then HB2.out hb)
  have HL3 := hid (HL2.out.keep hb)
  have HR3 := hid (HR2.out.keep hb)
  have HP3 : Hid ((s.size ≤ 200 ∧ xp = 0 ∧ np = s.size ∧ IRow w3 Ap np (pg s)) ∨ (200 < s.size ∧ xp = 2 ∧ np = 0)) := HP2.out.imp (fun h => ⟨h.1, h.2.1, h.2.2.1, h.2.2.2.keep hb⟩) id
  have HN3 := hid hrun
  clear hb hrun HB2 HL2 HR2 HP2
  go_wp2_with fail
  with_reducible refine (HWH.out _ HR3.out).mono ?_
  rintro e w4 ⟨rfl, hb⟩
  have HB4 := hid (bl_then HB3.out hb)
  have HL4 := hid (HL3.out.keep hb)
  have HR4 := hid (HR3.out.keep hb)
  have HP4 : Hid ((s.size ≤ 200 ∧ xp = 0 ∧ np = s.size ∧ IRow w4 Ap np (pg s)) ∨ (200 < s.size ∧ xp = 2 ∧ np = 0)) := HP3.out.imp (fun h => ⟨h.1, h.2.1, h.2.2.1, h.2.2.2.keep hb⟩) id
  have HN4 : Hid ((s.size ≤ 200 ∧ xr = 0 ∧ nr = (Rm.runs (lst s)).length ∧ RRow w4 Ar nr (fun k => (Rm.runs (lst s)).getD k (0, 0))) ∨ (200 < s.size ∧ xr = 2 ∧ nr = 0)) := HN3.out.imp (fun h => ⟨h.1, h.2.1, h.2.2.1, h.2.2.2.keep hb⟩) id
  clear hb HB3 HL3 HR3 HP3 HN3 HWH
  go_wp2_with fail
  with_reducible refine (long_any (b := w4.heap.size) _ (new_cell _ _ _)).mono ?_
  rintro e w5 ⟨⟨xl, rfl, hlong⟩, hw5⟩
  have hb : Below w4.heap.size w4 w5 := by rw [← hw5]; exact bl_new w4 _
  have HB5 := hid (bl_then HB4.out hb)
  have HL5 := hid (HL4.out.keep hb)
  have HR5 := hid (HR4.out.keep hb)
  have HP5 : Hid ((s.size ≤ 200 ∧ xp = 0 ∧ np = s.size ∧ IRow w5 Ap np (pg s)) ∨ (200 < s.size ∧ xp = 2 ∧ np = 0)) := HP4.out.imp (fun h => ⟨h.1, h.2.1, h.2.2.1, h.2.2.2.keep hb⟩) id
  have HN5 : Hid ((s.size ≤ 200 ∧ xr = 0 ∧ nr = (Rm.runs (lst s)).length ∧ RRow w5 Ar nr (fun k => (Rm.runs (lst s)).getD k (0, 0))) ∨ (200 < s.size ∧ xr = 2 ∧ nr = 0)) := HN4.out.imp (fun h => ⟨h.1, h.2.1, h.2.2.1, h.2.2.2.keep hb⟩) id
  have HLG := hid hlong
  clear hb hw5 hlong HB4 HL4 HR4 HP4 HN4
  go_upto_if 44 with fail
  go_cut [] from 20 (fun wx => Hid (Below w5.heap.size w5 wx))
  case first =>
    by_cases hs : s.size ≤ 200
    · obtain ⟨hxp, hnp, hpr⟩ : xp = 0 ∧ np = s.size ∧ IRow w5 Ap np (pg s) := by
        rcases HP5.out with ⟨_, a, b, c⟩ | ⟨a, _, _⟩
        · exact ⟨a, b, c⟩
        · omega
      obtain ⟨hxr, hnr, hrr⟩ : xr = 0 ∧ nr = (Rm.runs (lst s)).length ∧ RRow w5 Ar nr (fun k => (Rm.runs (lst s)).getD k (0, 0)) := by
        rcases HN5.out with ⟨_, a, b, c⟩ | ⟨a, _, _⟩
        · exact ⟨a, b, c⟩
        · omega
      have hxl : xl = 0 := by
        rcases HLG.out with ⟨_, a⟩ | ⟨a, _⟩
        · exact a
        · omega
      have e1 : ((xp : Int) != 0) = false := by rw [hxp]; rfl
      have e2 : ((xr : Int) != 0) = false := by rw [hxr]; rfl
      have e3 : ((xl : Int) != 0) = false := by rw [hxl]; rfl
      have hwl : ∀ W, RRow W Ar nr (fun k => (Rm.runs (lst s)).getD k (0, 0)) → Calls Try.prog 16 #[.slice Ar nr cr, .string s] W fun e w' => e = .returned (.bool true) ∧ Below W.heap.size W w' := by
        intro W hW
        rw [hnr] at hW ⊢
        exact wholly_any s W hs rfl hW
      have hnm : np ≤ maxLen := by unfold maxLen; omega
      have hsm : s.size ≤ maxLen := by unfold maxLen; omega
      have hEQ : Hid (eqB np s.size (pg s) (pg s) = true) := eqB_true.2 ⟨hnp, fun _ _ => rfl⟩
      have HPR := hid hpr
      have HRR := hid hrr
      have HWL := hid hwl
      clear hxp hxr hxl hpr hrr hwl hnp hnr
      go_wp2_with fail
      with_reducible refine (AgoOf_ok s _ hs).mono ?_
      rintro e w6 ⟨v, rfl, hown, hb⟩
      obtain ⟨Aa, ca, rfl, hrow⟩ := ago_row hown
      have HB6 := hid hb
      have HPR6 := hid (HPR.out.keep hb)
      have HRR6 := hid (HRR.out.keep hb)
      have HAG := hid hrow
      clear hown hrow hb HPR HRR
      go_wp2_with fail
      with_reducible refine (alike_any HPR6.out HAG.out hnm hsm).mono ?_
      rw [hEQ.out]
      rintro e w7 ⟨rfl, hd⟩
      have hb := hd.below w6.heap.size
      have HB7 := hid (bl_then HB6.out hb)
      have HRR7 := hid (HRR6.out.keep hb)
      clear hd hb HB6 HPR6 HRR6 HAG
      go_wp2_with fail
      with_reducible refine (HWL.out _ HRR7.out).mono ?_
      rintro e w8 ⟨rfl, hb⟩
      have HB8 := hid (bl_then HB7.out hb)
      clear hb HB7 HRR7 HWL
      go_wp2
      go_meet
      exact HB8
    · obtain ⟨hxp, hnp⟩ : xp = 2 ∧ np = 0 := by
        rcases HP5.out with ⟨a, _⟩ | ⟨_, a, b⟩
        · omega
        · exact ⟨a, b⟩
      obtain ⟨hxr, hnr⟩ : xr = 2 ∧ nr = 0 := by
        rcases HN5.out with ⟨a, _⟩ | ⟨_, a, b⟩
        · omega
        · exact ⟨a, b⟩
      have hxl : xl = 2 := by
        rcases HLG.out with ⟨a, _⟩ | ⟨_, a⟩
        · omega
        · exact a
      have e1 : ((xp : Int) != (xl : Int)) = false := by rw [hxp, hxl]; rfl
      have e2 : ((xr : Int) != (xl : Int)) = false := by rw [hxr, hxl]; rfl
      have e3 : ((xl : Int) != 0) = true := by rw [hxl]; rfl
      have e4 : (np : Int) = 0 := by rw [hnp]; rfl
      have e5 : (nr : Int) = 0 := by rw [hnr]; rfl
      clear hxp hxr hxl hnp hnr
      go_wp2
      go_meet
      exact Below.refl _ _
  case rest =>
    have HB6 := hid (bl_then HB5.out hcut.out)
    have HL6 := hid (HL5.out.keep hcut.out)
    have HR6 := hid (HR5.out.keep hcut.out)
    clear hcut HB5 HL5 HR5 HP5 HN5 HLG
    generalize wc = w6 at *
    go_upto_if 82 with fail
    go_cut [16] from 20 (fun s16 wx => s16 = .int .i64 (f : Int) ∧ w6 = wx)
    case first =>
      rcases HG.out with ⟨hn, hf, ht⟩ | ⟨hn, hp, hf, ht⟩ | ⟨hn, hp, hf, ht⟩
      · have hn' : (200 : Int) < (n : Int) := by omega
        have hd : decide ((200 : Int) < (n : Int)) = true := decide_eq_true hn'
        have HF2 := hid hf
        clear hf ht
        go_wp2
        go_meet
        exact ⟨by rw [HF2.out]; rfl, rfl⟩
      · have hd : decide ((200 : Int) < (n : Int)) = false := decide_eq_false (by omega)
        have HF2 := hid hf
        clear hf ht
        go_wp2_with fail
        with_reducible refine (bad_any w6 HL6.out hn).mono ?_
        rintro e w7 ⟨⟨b, rfl, hb⟩, hw7⟩
        obtain rfl : w6 = w7 := hw7.symm
        obtain rfl : b = true := hb.2 hp
        clear hb hw7
        go_wp2
        go_meet
        exact ⟨by rw [HF2.out]; rfl, rfl⟩
      · have hd : decide ((200 : Int) < (n : Int)) = false := decide_eq_false (by omega)
        have HF2 := hid hf
        clear hf ht
        go_wp2_with fail
        with_reducible refine (bad_any w6 HL6.out hn).mono ?_
        rintro e w7 ⟨⟨b, rfl, hb⟩, hw7⟩
        obtain rfl : w6 = w7 := hw7.symm
        obtain rfl : b = false := by
          cases b with
          | false => rfl
          | true => exact absurd hp (hb.1 rfl)
        clear hb hw7
        go_wp2
        go_meet
        exact ⟨by rw [HF2.out]; rfl, rfl⟩
    case rest =>
      obtain ⟨rfl, rfl⟩ := hcut
      go_upto_region 16 with fail
      go_cut [106] from 20 (fun s106 wx => s106 = .bool false ∧ Hid (Below w6.heap.size w6 wx))
      case first =>
        have hff : ((f : Int) != (f : Int)) = false := by simp
        by_cases hf0 : f = 0
        · obtain ⟨hn, hp, ht⟩ : n ≤ 200 ∧ Places g n ∧ t = mkS (Fm.getL (nl g n)) := by
            rcases HG.out with ⟨_, a, _⟩ | ⟨_, _, a, _⟩ | ⟨a, b, _, c⟩
            · omega
            · omega
            · exact ⟨a, b, c⟩
          have hz : t.size = n := by rw [ht]; exact mk_get_size g n
          have HGE : Hid (eqB t.size n (pg t) g = true) := by
            refine eqB_true.2 ⟨hz, fun k hk => ?_⟩
            rw [hz] at hk
            unfold pg
            rw [ht, nl_back g hp, nl_at hk]
            have := hp k hk
            omega
          have hts : t.size ≤ 200 := by omega
          have hnm : n ≤ maxLen := by unfold maxLen; omega
          have htm : t.size ≤ maxLen := by unfold maxLen; omega
          have e1 : ((f : Int) != 0) = false := by rw [hf0]; rfl
          have e2 : ((f : Int) == 0) = true := by rw [hf0]; rfl
          clear hf0 hz ht
          go_wp2_with fail
          with_reducible refine (AgoOf_ok t _ hts).mono ?_
          rintro e w7 ⟨v, rfl, hown, hb⟩
          obtain ⟨Aa, ca, rfl, hrow⟩ := ago_row hown
          have HB7 := hid hb
          have HL7 := hid (HL6.out.keep hb)
          have HAG := hid hrow
          clear hown hrow hb
          go_wp2_with fail
          with_reducible refine (alike_any HAG.out HL7.out htm hnm).mono ?_
          rw [HGE.out]
          rintro e w8 ⟨rfl, hd⟩
          have HB8 := hid (bl_then HB7.out (hd.below w7.heap.size))
          clear hd HB7 HL7 HAG
          go_wp2
          go_meet
          exact ⟨rfl, HB8⟩
        · have ht : t.size = 0 := by
            rcases HG.out with ⟨_, _, a⟩ | ⟨_, _, _, a⟩ | ⟨_, _, a, _⟩
            · exact a
            · exact a
            · exact absurd a hf0
          have hem := no_bytes ht
          have e1 : ((f : Int) != 0) = true := by rw [bne_iff_ne]; omega
          have e2 : ((f : Int) == 0) = false := beq_eq_false_iff_ne.2 (by omega)
          clear hf0 ht
          go_wp2
          go_meet
          exact ⟨rfl, Below.refl _ _⟩
      case rest =>
        obtain ⟨rfl, hcut⟩ := hcut
        have HB7 := hid (bl_then HB6.out hcut.out)
        have HR7 := hid (HR6.out.keep hcut.out)
        clear hcut HB6 HL6 HR6 HG
        generalize wc = w7 at *
        go_wp2
        go_loopw [109, 17] (fun x sv wr => ∃ k : Nat, ∃ T, k ≤ m ∧ T.length ≤ 200 ∧ x = .int .i64 (k : Int) ∧ sv = .string (mkS T) ∧ Hid (Rm.wl (pvB h k) T ((rs h m).drop k) = J) ∧ Hid (Below w7.heap.size w7 wr)) (fun x _ _ => m - (intOf x).toNat)
        case atStart => exact ⟨0, [], by omega, by simp, rfl, rfl, HJ, Below.refl _ _⟩
        case round =>
          clear HJ
          obtain ⟨k, T, hk, hT, rfl, rfl, HJ, HB⟩ := hrel
          unfold maxLen at hmm
          obtain ⟨so, hso⟩ : ∃ so, so = mkS T := ⟨_, rfl⟩
          have hsz : so.size = T.length := by rw [hso, mk_size]
          have hsz2 : so.size ≤ 200 := by omega
          have HSO := hid hso
          rw [← hso]
          clear hso
          by_cases hlt : k < m
          · have hlt' : (k : Int) < (m : Int) := by omega
            obtain ⟨b0, o0, rfl, hbl, hc0, hd0⟩ := HR7.out k hlt
            have hck := (HB.out.cell (p := ⟨b0, o0 + k * 2, none⟩) hbl).trans hc0
            have hdk := (HB.out.cell (p := ⟨b0, o0 + k * 2 + 1, none⟩) hbl).trans hd0
            have hgs : w7.heap.size ≤ wr.heap.size := HB.out.size
            obtain ⟨b, hb⟩ : ∃ b, b = (h k).1 := ⟨_, rfl⟩
            obtain ⟨z, hz⟩ : ∃ z, z = (h k).2 := ⟨_, rfl⟩
            rw [← hb] at hck
            rw [← hz] at hdk
            have HD : Hid (Rm.wl (pvB h k) T ((rs h m).drop k) = if z < 1 then (1, []) else if pvB h k = some b then (3, []) else if 200 - (so.size : Int) < z then (2, []) else Rm.wl (pvB h (k + 1)) (T ++ List.replicate z.toNat b) ((rs h m).drop (k + 1))) := by
              unfold Hid
              rw [rs_drop hlt, show h k = ((h k).1, (h k).2) from rfl, Rm.wl_cons, ← hb, ← hz, pvB_succ, ← hb, hsz]
            have HB1 : Hid (Below w7.heap.size w7 (wr.alloc (.cells #[.int .u8 (b.toNat : Int), .int .i64 z] 39))) := HB.out.alloc HB.out.size _
            have hca0 : (wr.alloc (.cells #[.int .u8 (b.toNat : Int), .int .i64 z] 39)).cell? ⟨wr.heap.size, 0, none⟩ = some (.int .u8 (b.toNat : Int)) := by rw [cell_of_row _ _ _ _ _ _ (heap_alloc_new wr _)]; rfl
            have hca1 : (wr.alloc (.cells #[.int .u8 (b.toNat : Int), .int .i64 z] 39)).cell? ⟨wr.heap.size, 1, none⟩ = some (.int .i64 z) := by rw [cell_of_row _ _ _ _ _ _ (heap_alloc_new wr _)]; rfl
            clear hc0 hd0 hb hz
            by_cases h1 : z < 1
            · have hdz : decide (z < 1) = true := decide_eq_true h1
              have HE : Hid (J = (1, [])) := by have := HJ.out; rw [HD.out, if_pos h1] at this; exact this.symm
              have hj1 : ((jh : Int) == 1) = true := by rw [HJH.out, HE.out]; rfl
              have hem := no_bytes (s := ws) (by rw [HWS.out, HE.out]; rfl)
              clear HJ HD hca0 hca1 HE
              go_wp2
              go_ret
              exact ⟨rfl, bl_then HB7.out HB1.out⟩
            · have hdz : decide (z < 1) = false := decide_eq_false h1
              have HD1 : Hid (J = if pvB h k = some b then (3, []) else if 200 - (so.size : Int) < z then (2, []) else Rm.wl (pvB h (k + 1)) (T ++ List.replicate z.toNat b) ((rs h m).drop (k + 1))) := by
                have := HJ.out; rw [HD.out, if_neg h1] at this; exact this.symm
              have eTl : IntKind.i64.wrap (200 - (so.size : Int)) = 200 - (so.size : Int) := IntWalk.i64_in _ (by omega)
              clear HJ HD
              by_cases h0 : k = 0
              · have hdk0 : decide ((0 : Int) < (k : Int)) = false := decide_eq_false (by omega)
                have hnk : ¬ 0 < k := by omega
                have HP : Hid (pvB h k ≠ some b) := by unfold Hid; rw [h0, pvB_zero]; intro h; cases h
                clear h0
                have HD2 : Hid (J = if 200 - (so.size : Int) < z then (2, []) else Rm.wl (pvB h (k + 1)) (T ++ List.replicate z.toNat b) ((rs h m).drop (k + 1))) := by unfold Hid; rw [HD1.out, if_neg HP.out]
                clear HD1 HP
                go_wp2
                go_quiet (fail)
                generalize hwd : (wr.alloc (.cells #[.int .u8 (b.toNat : Int), .int .i64 z] 39)).drewN _ = wd
                have hcb0 : wd.cell? ⟨wr.heap.size, 0, none⟩ = some (.int .u8 (b.toNat : Int)) := by rw [← hwd]; exact hca0
                have hcb1 : wd.cell? ⟨wr.heap.size, 1, none⟩ = some (.int .i64 z) := by rw [← hwd]; exact hca1
                have HBd : Hid (Below w7.heap.size w7 wd) := by rw [← hwd]; exact bl_drewN HB1.out _
                clear hwd HB HB1 hca0 hca1 hck hdk
                by_cases hf : 200 - (so.size : Int) < z
                · have hdf : decide (200 - (so.size : Int) < z) = true := decide_eq_true hf
                  have HE : Hid (J = (2, [])) := by unfold Hid; rw [HD2.out, if_pos hf]
                  have hj2 : ((jh : Int) == 2) = true := by rw [HJH.out, HE.out]; rfl
                  have hem := no_bytes (s := ws) (by rw [HWS.out, HE.out]; rfl)
                  clear HD2 HE
                  go_wp2
                  go_ret
                  exact ⟨rfl, bl_then HB7.out HBd.out⟩
                · have hdf : decide (200 - (so.size : Int) < z) = false := decide_eq_false hf
                  obtain ⟨q, rfl⟩ : ∃ q : Nat, z = (q : Int) := ⟨z.toNat, by omega⟩
                  have HJn : Hid (Rm.wl (pvB h (k + 1)) (T ++ List.replicate q b) ((rs h m).drop (k + 1)) = J) := by
                    have := HD2.out
                    rw [if_neg hf] at this
                    exact this.symm
                  have hq2 : q ≤ 200 := by omega
                  have hTn : Hid ((T ++ List.replicate q b).length ≤ 200) := by unfold Hid; rw [List.length_append, List.length_replicate]; omega
                  have hone : (wd.alloc (.cells #[.int .u8 (b.toNat : Int)] 5)).cell? ⟨wd.heap.size, 0, none⟩ = some (.int .u8 (b.toNat : Int)) := by rw [cell_of_row _ _ _ _ _ _ (heap_alloc_new wd _)]; rfl
                  have hlt1 := World.block_lt_of_cell? _ _ hcb1
                  have hcc1 : (wd.alloc (.cells #[.int .u8 (b.toNat : Int)] 5)).cell? ⟨wr.heap.size, 1, none⟩ = some (.int .i64 (q : Int)) := ((bl_new wd (.cells #[.int .u8 (b.toNat : Int)] 5)).cell (p := ⟨wr.heap.size, 1, none⟩) hlt1).trans hcb1
                  have hcv := conv_b1 b hone
                  have HBe : Hid (Below w7.heap.size w7 (wd.alloc (.cells #[.int .u8 (b.toNat : Int)] 5))) := HBd.out.alloc HBd.out.size _
                  have HSR := hid (srep_any b q hq2)
                  obtain ⟨rp, hrp⟩ : ∃ rp, rp = mkS (List.replicate q b) := ⟨_, rfl⟩
                  have hrz : rp.size = q := by rw [hrp, mk_size, List.length_replicate]
                  have hbig : ¬ 9223372036854775807 < so.size + rp.size := by omega
                  have HSS : Hid (so ++ rp = mkS (T ++ List.replicate q b)) := by unfold Hid; rw [HSO.out, hrp, mk_cat]
                  have HRP := hid hrp
                  clear HD2 hf HBd hone hrp hrz hsz hsz2
                  go_wp2_with fail
                  with_reducible refine (HSR.out _).mono ?_
                  rw [← HRP.out]
                  rintro e w9 ⟨rfl, hb9⟩
                  have HB9 := hid (HBe.out.trans (hb9.mono HBe.out.size))
                  clear hb9 HBe HSR hcv hcc1 hcb0 hcb1
                  go_wp2
                  go_roundw
                  case measure => simp [intOf]; omega
                  case rel => exact ⟨k + 1, _, by omega, hTn.out, by go_num, by rw [HSS.out], HJn, HB9⟩
              · obtain ⟨j, hj⟩ : ∃ j, k = j + 1 := ⟨k - 1, by omega⟩
                have ej : (k : Int) - 1 = (j : Int) := by omega
                have ejw : IntKind.i64.wrap (j : Int) = (j : Int) := IntWalk.i64_in _ (by omega)
                have hjn : j < m := by omega
                have hjn' : (j : Int) < (m : Int) := by omega
                have hj0 : (0 : Int) ≤ (j : Int) := by omega
                have hdk0 : decide ((0 : Int) < (k : Int)) = true := decide_eq_true (by omega)
                have hk0 : 0 < k := by omega
                have hk0' : (0 : Int) < (k : Int) := by omega
                have hpv : pvB h k = some (h j).1 := by rw [hj, pvB_succ]
                obtain ⟨b1, o1, hA, hbl1, hc1, _⟩ := HR7.out j hjn
                injection hA with hA
                injection hA with hA1 hA2
                subst hA1; subst hA2
                have hcj := (HB1.out.cell (p := ⟨b0, o0 + j * 2, none⟩) hbl).trans hc1
                obtain ⟨b2, hb2⟩ : ∃ b2, b2 = (h j).1 := ⟨_, rfl⟩
                rw [← hb2] at hcj hpv
                have HPV := hid hpv
                clear hc1 hb2 hpv hj hbl1 h0
                by_cases he : b = b2
                · have heq : ((b2.toNat : Int) == (b.toNat : Int)) = true := by rw [he]; simp
                  have HE : Hid (J = (3, [])) := by unfold Hid; rw [HD1.out, if_pos (by rw [HPV.out, he])]
                  have hj3 : ((jh : Int) == 3) = true := by rw [HJH.out, HE.out]; rfl
                  have hem := no_bytes (s := ws) (by rw [HWS.out, HE.out]; rfl)
                  clear HD1 HPV he HE
                  go_wp2
                  go_quiet (fail)
                  go_wp2
                  go_ret
                  exact ⟨rfl, bl_then HB7.out (bl_drewN HB1.out _)⟩
                · have heq : ((b2.toNat : Int) == (b.toNat : Int)) = false := (byte_ne (fun h => he h.symm)).2
                  have HP : Hid (pvB h k ≠ some b) := by unfold Hid; rw [HPV.out]; intro h; injection h with h; exact he h.symm
                  clear HPV he
                  have HD2 : Hid (J = if 200 - (so.size : Int) < z then (2, []) else Rm.wl (pvB h (k + 1)) (T ++ List.replicate z.toNat b) ((rs h m).drop (k + 1))) := by unfold Hid; rw [HD1.out, if_neg HP.out]
                  clear HD1 HP
                  go_wp2
                  go_quiet (fail)
                  generalize hwd : (wr.alloc (.cells #[.int .u8 (b.toNat : Int), .int .i64 z] 39)).drewN _ = wd
                  have hcb0 : wd.cell? ⟨wr.heap.size, 0, none⟩ = some (.int .u8 (b.toNat : Int)) := by rw [← hwd]; exact hca0
                  have hcb1 : wd.cell? ⟨wr.heap.size, 1, none⟩ = some (.int .i64 z) := by rw [← hwd]; exact hca1
                  have HBd : Hid (Below w7.heap.size w7 wd) := by rw [← hwd]; exact bl_drewN HB1.out _
                  clear hwd HB HB1 hca0 hca1 hck hdk
                  by_cases hf : 200 - (so.size : Int) < z
                  · have hdf : decide (200 - (so.size : Int) < z) = true := decide_eq_true hf
                    have HE : Hid (J = (2, [])) := by unfold Hid; rw [HD2.out, if_pos hf]
                    have hj2 : ((jh : Int) == 2) = true := by rw [HJH.out, HE.out]; rfl
                    have hem := no_bytes (s := ws) (by rw [HWS.out, HE.out]; rfl)
                    clear HD2 HE
                    go_wp2
                    go_ret
                    exact ⟨rfl, bl_then HB7.out HBd.out⟩
                  · have hdf : decide (200 - (so.size : Int) < z) = false := decide_eq_false hf
                    obtain ⟨q, rfl⟩ : ∃ q : Nat, z = (q : Int) := ⟨z.toNat, by omega⟩
                    have HJn : Hid (Rm.wl (pvB h (k + 1)) (T ++ List.replicate q b) ((rs h m).drop (k + 1)) = J) := by
                      have := HD2.out
                      rw [if_neg hf] at this
                      exact this.symm
                    have hq2 : q ≤ 200 := by omega
                    have hTn : Hid ((T ++ List.replicate q b).length ≤ 200) := by unfold Hid; rw [List.length_append, List.length_replicate]; omega
                    have hone : (wd.alloc (.cells #[.int .u8 (b.toNat : Int)] 5)).cell? ⟨wd.heap.size, 0, none⟩ = some (.int .u8 (b.toNat : Int)) := by rw [cell_of_row _ _ _ _ _ _ (heap_alloc_new wd _)]; rfl
                    have hlt1 := World.block_lt_of_cell? _ _ hcb1
                    have hcc1 : (wd.alloc (.cells #[.int .u8 (b.toNat : Int)] 5)).cell? ⟨wr.heap.size, 1, none⟩ = some (.int .i64 (q : Int)) := ((bl_new wd (.cells #[.int .u8 (b.toNat : Int)] 5)).cell (p := ⟨wr.heap.size, 1, none⟩) hlt1).trans hcb1
                    have hcv := conv_b1 b hone
                    have HBe : Hid (Below w7.heap.size w7 (wd.alloc (.cells #[.int .u8 (b.toNat : Int)] 5))) := HBd.out.alloc HBd.out.size _
                    have HSR := hid (srep_any b q hq2)
                    obtain ⟨rp, hrp⟩ : ∃ rp, rp = mkS (List.replicate q b) := ⟨_, rfl⟩
                    have hrz : rp.size = q := by rw [hrp, mk_size, List.length_replicate]
                    have hbig : ¬ 9223372036854775807 < so.size + rp.size := by omega
                    have HSS : Hid (so ++ rp = mkS (T ++ List.replicate q b)) := by unfold Hid; rw [HSO.out, hrp, mk_cat]
                    have HRP := hid hrp
                    clear HD2 hf HBd hone hrp hrz hsz hsz2
                    go_wp2_with fail
                    with_reducible refine (HSR.out _).mono ?_
                    rw [← HRP.out]
                    rintro e w9 ⟨rfl, hb9⟩
                    have HB9 := hid (HBe.out.trans (hb9.mono HBe.out.size))
                    clear hb9 HBe HSR hcv hcc1 hcb0 hcb1
                    go_wp2
                    go_roundw
                    case measure => simp [intOf]; omega
                    case rel => exact ⟨k + 1, _, by omega, hTn.out, by go_num, by rw [HSS.out], HJn, HB9⟩
          · have hd : decide ((k : Int) < (m : Int)) = false := decide_eq_false (by omega)
            obtain rfl : m = k := by omega
            have hE : J = (0, T) := by
              have := HJ.out
              rw [rs_end] at this
              exact this.symm
            have hj0 : ((jh : Int) == 0) = true := by rw [HJH.out, hE]; rfl
            have hww : (ws.toList == so.toList) = true := by rw [HWS.out, HSO.out, hE]; simp
            clear HJ hE
            go_wp2
            go_ret
            exact ⟨rfl, bl_then HB7.out HB.out⟩
end Go.Proofs.Ythebjelkmopboaa
