
/-
The contracts of code.Front, code.sole and code.Sole.
-/
import Derived.Test.YtmgkoliindicgaaCodeU
import Derived.Test.YtmgkoliindicgaaCodeP
namespace Go.Proofs.Ytmgkoliindicgaa
open Go.RowKit

theorem AskPost.ok {P : List (List UInt8) → Prop} {W : List (List UInt8)} {w w' : World} {b : Bool} (h : Cm.cErr W = 0) (hb : b = true ↔ P W) (hbel : Below w.heap.size w w') : AskPost P W w (.returned (.tuple #[.bool b, .int .i64 0])) w' :=
  ⟨⟨b, by rw [h], fun _ => hb, fun h2 => absurd h h2⟩, hbel⟩
theorem AskPost.no {P : List (List UInt8) → Prop} {W : List (List UInt8)} {w w' : World} {E : Int} (h : Cm.cErr W ≠ 0) (e : E = Cm.cErr W) (hbel : Below w.heap.size w w') : AskPost P W w (.returned (.tuple #[.bool false, .int .i64 E])) w' :=
  ⟨⟨false, by rw [e], fun h2 => absurd h2 h, fun _ => rfl⟩, hbel⟩
set_option maxHeartbeats 1000000 in
theorem Front_all {A : Option Addr} {n c : Nat} {g : Nat → ByteArray} (w : World) (h : SRow w A n g) (hc : n ≤ c) :
    Calls Try.prog 33 #[.slice A n c] w (AskPost Cm.PF (cws g n) w) := by
  have H := hid h
  have hK := check_any w h hc
  have HP : Hid (Cm.PF (cws g n) ↔ ∀ j, j < n → Cm.bey (wd (g j)) (cws g n) = []) := by
    have := Cm.pf_bey (W := cws g n)
    rw [cws_len] at this
    refine this.trans ?_
    constructor
    · intro h j hj; have := h j hj; rwa [cws_get hj] at this
    · intro h j hj; rw [cws_get hj]; exact h j hj
  clear h
  go_enter Try.func33, Try.ntmps33
  by_cases hE : Cm.cErr (cws g n) = 0
  · have hg := Cm.cErr_zero.1 hE
    have hn : n ≤ 12 := by have := hg.few; rw [cws_len] at this; exact this
    have HE0 := hid hE
    rw [hE] at hK
    clear hg hE
    go_wp2_with fail
    with_reducible refine hK.mono ?_
    rintro e w1 ⟨rfl, rfl⟩
    clear hK
    go_wp2
    go_loopw [14] (fun y wr => ∃ i : Nat, i ≤ n ∧ y = .int .i64 (i : Int) ∧ Hid (∀ j, j < i → Cm.bey (wd (g j)) (cws g n) = []) ∧ Below w.heap.size w wr) (fun y _ => n - (intOf y).toNat)
    case atStart => exact ⟨0, by omega, rfl, fun j hj => by omega, Below.refl _ _⟩
    case round =>
      obtain ⟨i, hi, rfl, HI, hbel⟩ := hrel
      by_cases hlt : i < n
      · have hlt' : (i : Int) < (n : Int) := by omega
        have HRow := hid (H.out.keep hbel)
        obtain ⟨b, o, rfl, _, hcell⟩ := HRow.out i hlt
        go_wp2_with fail
        with_reducible refine (cbeyond_any _ HRow.out hn).mono ?_
        rintro e w2 ⟨v, rfl, hown, hb2⟩
        have hbel2 := bl_then hbel hb2
        obtain ⟨A2, c2, rfl, _, _⟩ := hown.srow
        clear hown hb2 hbel HRow hcell
        by_cases h0 : (Cm.bey (wd (g i)) (cws g n)).length = 0
        · rw [h0]
          have HN : Hid (∀ j, j < i + 1 → Cm.bey (wd (g j)) (cws g n) = []) := by
            intro j hj
            by_cases e : j = i
            · subst e; exact List.eq_nil_of_length_eq_zero h0
            · exact HI.out j (by omega)
          clear h0 HI
          go_wp2
          go_roundw
          case measure => simp [intOf]; omega
          case rel => exact ⟨i + 1, by omega, by go_num, HN, hbel2⟩
        · have HN : Hid (¬ Cm.PF (cws g n)) := by
            intro hp
            exact h0 (by rw [HP.out.1 hp i hlt]; rfl)
          obtain ⟨q, hq⟩ : ∃ q, q = (Cm.bey (wd (g i)) (cws g n)).length := ⟨_, rfl⟩
          rw [← hq] at h0 ⊢
          have hq0 : (0 : Int) < (q : Int) := by omega
          clear hq HI h0
          go_wp2
          go_ret2
          exact AskPost.ok HE0.out ⟨fun h => (by cases h), fun h => absurd h HN.out⟩ hbel2
      · have hdl : decide ((i : Int) < (n : Int)) = false := decide_eq_false (by omega)
        have HN : Hid (Cm.PF (cws g n)) := HP.out.2 fun j hj => HI.out j (by omega)
        go_wp2
        go_ret2
        exact AskPost.ok HE0.out ⟨fun _ => HN.out, fun _ => rfl⟩ hbel
  · have hE' : (Cm.cErr (cws g n) != 0) = true := bne_iff_ne.2 hE
    have HE := hid hE
    clear hE
    obtain ⟨E, hEE⟩ : ∃ E, E = Cm.cErr (cws g n) := ⟨_, rfl⟩
    have HEE := hid hEE
    rw [← hEE] at hK hE'
    clear hEE
    go_wp2_with fail
    with_reducible refine hK.mono ?_
    rintro e w1 ⟨rfl, rfl⟩
    clear hK
    go_wp2
    go_ret2
    exact AskPost.no HE.out HEE.out (Below.refl _ _)

theorem seeds_len {W L : List (List UInt8)} {j : Nat} (h : Cm.Seeds W L j) (hg : Cm.Good W) : L.length ≤ 156 := by
  have h1 := Sm.nodup_le (B := Cm.ends W) h.1 fun o ho => Cm.mem_ends.2 (by
    obtain ⟨_, a, _, v, h3, h4⟩ := (h.2 o).1 ho
    exact ⟨v, h3, _, h4.symm⟩)
  have h2 := Cm.ends_len hg.short
  have h3 := hg.few
  omega
theorem off_new {w1 w2 : World} {base : Nat} {v v2 : Value} {L M : List (List UInt8)} {A2 : Option Addr} {m c2 : Nat} (h1 : OwnL w1 base v L) (h2 : OwnL w2 w1.heap.size v2 M) (e : v2 = .slice A2 m c2) : Off v A2 m := by
  intro h0 a ha hk
  have h3 := (World.ownsRow.lt h1 _ hk).2
  have h4 := (World.ownsRow.lt h2 a.block (by rw [e, ha]; rfl)).1
  omega
/-- What beyond or within gave, laid behind the leads. -/
theorem union_new {w1 w2 : World} {base : Nat} {v v2 : Value} {L M : List (List UInt8)} (h1 : OwnL w1 base v L) (hbase : base ≤ w1.heap.size) (h2 : OwnL w2 w1.heap.size v2 M) (hb : Below w1.heap.size w1 w2) (hl : L.length ≤ 1000) (hm : M.length ≤ 1000) :
    Calls Try.prog 66 #[v, v2] w2 fun e w' => ∃ v', e = .returned v' ∧ OwnL w' base v' (Cm.un L M) ∧ Below base w2 w' := by
  obtain ⟨A2, c2, e, _, hrow⟩ := h2.srow
  have hoff := off_new h1 h2 e
  subst e
  have := union_any (c := c2) w2 (h1.low hb) (Nat.le_trans hbase hb.size) hrow hoff (by omega)
  rwa [cws_of] at this
set_option maxHeartbeats 2000000 in
theorem sole_any {A : Option Addr} {n c : Nat} {g : Nat → ByteArray} (w : World) (h : SRow w A n g) (hgood : Cm.Good (cws g n)) :
    Calls Try.prog 47 #[.slice A n c] w fun e w' => (∃ b : Bool, e = .returned (.bool b) ∧ (b = true ↔ Cm.UD (cws g n))) ∧ Below w.heap.size w w' := by
  have hn : n ≤ 12 := by have := hgood.few; rw [cws_len] at this; exact this
  have H := hid h
  have HGo := hid hgood
  clear h hgood
  go_enter Try.func47, Try.ntmps47
  go_wp2
  go_loopw [3, 10] (fun x y wr => ∃ (i : Nat) (v : Value) (L : List (List UInt8)), i ≤ n ∧ v = x ∧ y = .int .i64 (i : Int) ∧ Hid (OwnL wr w.heap.size v L) ∧ Hid (Cm.Seeds (cws g n) L i) ∧ Below w.heap.size w wr) (fun _ y _ => n - (intOf y).toNat)
  case atStart => exact ⟨0, _, [], by omega, rfl, rfl, OwnL.zero _ _, Cm.Seeds.zero _, Below.refl _ _⟩
  case round =>
    obtain ⟨i, v, L, hi, rfl, rfl, HO, HS, hbel⟩ := hrel
    by_cases hlt : i < n
    · have hlt' : (i : Int) < (n : Int) := by omega
      have HRow := hid (H.out.keep hbel)
      obtain ⟨b, o, rfl, _, hcell⟩ := HRow.out i hlt
      have HS2 : Hid (Cm.Seeds (cws g n) (Cm.un L (Cm.bey (wd (g i)) (cws g n))) (i + 1)) := by
        have := HS.out.step
        rwa [cws_get hlt] at this
      have HLn := hid (seeds_len HS.out HGo.out)
      clear HS
      go_wp2_with fail
      with_reducible refine (cbeyond_any _ HRow.out hn).mono ?_
      rintro e w2 ⟨v2, rfl, hown2, hb2⟩
      have HU := hid (union_new HO.out hbel.size hown2 hb2 (by have := HLn.out; omega) (by have := Cm.bey_len (wd (g i)) (cws g n); rw [cws_len] at this; omega))
      have hbel2 := bl_then hbel hb2
      clear hown2 hb2 hbel HO HRow hcell HLn
      go_wp2_with fail
      with_reducible refine HU.out.mono ?_
      rintro e w3 ⟨v3, rfl, hown3, hb3⟩
      have HO3 := hid hown3
      have hbel3 := hbel2.trans hb3
      clear hown3 hb3 HU hbel2
      go_wp2
      go_roundw
      case measure => simp [intOf]; omega
      case rel => exact ⟨i + 1, _, _, by omega, rfl, by go_num, HO3, HS2, hbel3⟩
    · have hdl : decide ((i : Int) < (n : Int)) = false := decide_eq_false (by omega)
      obtain rfl : n = i := by omega
      have HR0 : Hid (Cm.Srch (cws g n) L 0) := by
        have := HS.out
        refine Cm.Seeds.srch ?_
        rw [cws_len]
        exact this
      have HO0 := HO
      have hbel0 := hbel
      clear HS HO hbel
      go_wp2
      go_loopw [3, 6] (fun x y wr => ∃ (i : Nat) (v : Value) (L : List (List UInt8)), i ≤ L.length ∧ L.length ≤ 156 ∧ v = x ∧ y = .int .i64 (i : Int) ∧ Hid (OwnL wr w.heap.size v L) ∧ Hid (Cm.Srch (cws g n) L i) ∧ Below w.heap.size w wr) (fun _ y _ => 157 - (intOf y).toNat)
      case atStart => exact ⟨0, _, L, by omega, HR0.out.len HGo.out, rfl, rfl, HO0, HR0, hbel0⟩
      case round =>
        clear HR0 HO0 hbel0
        obtain ⟨i, v, L, hi, hl, rfl, rfl, HO, HR, hbel⟩ := hrel
        obtain ⟨A2, c2, hv, hc2, hrow2⟩ := HO.out.srow
        by_cases hlt : i < L.length
        · have hRow := H.out.keep hbel
          obtain ⟨b, o, rfl, _, hcell⟩ := hrow2 i hlt
          obtain ⟨y, hy⟩ : ∃ y, y = mkS (L.getD i []) := ⟨_, rfl⟩
          have hwy : wd y = L.getD i [] := by rw [hy]; exact lst_mk _
          replace hcell : wr.cell? ⟨b, o + i, none⟩ = some (.string y) := by rw [hy]; exact hcell
          have hC := scontains_any (c := c) y hRow (by unfold maxLen; omega)
          have HRow := hid hRow
          have HHit := hid (HR.out.hit HGo.out hlt)
          have HStp := hid (HR.out.step hlt)
          rw [← hwy] at HHit HStp
          have HL2 : Hid (y.size ≤ 1000000000) := by
            obtain ⟨u, hu1, hu2⟩ := (HR.out.ok _ (Cm.getD_mem hlt)).2.1
            have h1 := HGo.out.short u hu1
            have h2 := hu2.length_le
            rw [← hwy, wd_len] at h2
            show y.size ≤ _
            omega
          obtain ⟨q, hq⟩ : ∃ q, q = L.length := ⟨_, rfl⟩
          rw [← hq] at hv
          subst hv
          have hiq : (i : Int) < (q : Int) := by omega
          have HQ := hid hq
          have hq2 : q ≤ 156 := by omega
          have hlL := hid hl
          clear hq hrow2 hRow hwy hy hl hi hlt HR
          by_cases hin : wd y ∈ cws g n
          · rw [decide_eq_true hin] at hC
            have HN := hid (HHit.out hin)
            clear hin HHit HStp
            go_wp2_with fail
            with_reducible refine hC.mono ?_
            rintro e w2 ⟨rfl, rfl⟩
            clear hC
            go_wp2
            go_ret
            exact ⟨⟨false, rfl, ⟨fun h => (by cases h), fun h => absurd h HN.out⟩⟩, hbel⟩
          · rw [decide_eq_false hin] at hC
            have HN := hid (HStp.out hin)
            clear hin HHit HStp
            go_wp2_with fail
            with_reducible refine hC.mono ?_
            rintro e w2 ⟨rfl, rfl⟩
            clear hC
            go_wp2_with fail
            with_reducible refine (cbeyond_any _ HRow.out hn).mono ?_
            rintro e w2 ⟨v2, rfl, hown2, hb2⟩
            have hlen1 : (Cm.bey (wd y) (cws g n)).length ≤ 12 := by have := Cm.bey_len (wd y) (cws g n); rw [cws_len] at this; omega
            have HU := hid (union_new HO.out hbel.size hown2 hb2 (by have := hlL.out; omega) (by omega))
            have hbel2 := bl_then hbel hb2
            clear hown2 hb2 hbel HO HRow hcell
            go_wp2_with fail
            with_reducible refine HU.out.mono ?_
            rintro e w3 ⟨v3, rfl, hown3, hb3⟩
            have HO3 := hid hown3
            have hbel3 := hbel2.trans hb3
            have HRow3 := hid (H.out.keep hbel3)
            clear hown3 hb3 HU hbel2
            go_wp2_with fail
            with_reducible refine (cwithin_any _ HRow3.out hn).mono ?_
            rintro e w4 ⟨v4, rfl, hown4, hb4⟩
            have hlen2 : (Cm.wit (wd y) (cws g n)).length ≤ 12 := by have := Cm.wit_len (wd y) (cws g n); rw [cws_len] at this; omega
            have HU := hid (union_new HO3.out hbel3.size hown4 hb4 (by have h1 := hlL.out; have h2 := Cm.un_len (Cm.bey (wd y) (cws g n)) L; omega) (by omega))
            have hbel4 := bl_then hbel3 hb4
            clear hown4 hb4 hbel3 HO3 HRow3
            go_wp2_with fail
            with_reducible refine HU.out.mono ?_
            rintro e w5 ⟨v5, rfl, hown5, hb5⟩
            have HO5 := hid hown5
            have hbel5 := hbel4.trans hb5
            have HLn := hid (HN.out.len HGo.out)
            have HLi : Hid (i + 1 ≤ (Cm.un (Cm.un L (Cm.bey (wd y) (cws g n))) (Cm.wit (wd y) (cws g n))).length) := by
              have h1 := (Cm.un_pre (Cm.bey (wd y) (cws g n)) L).length_le
              have h2 := (Cm.un_pre (Cm.wit (wd y) (cws g n)) (Cm.un L (Cm.bey (wd y) (cws g n)))).length_le
              have h3 := HQ.out
              show i + 1 ≤ _
              omega
            clear hown5 hb5 HU hbel4
            go_wp2
            go_roundw
            case measure => simp [intOf]; omega
            case rel => exact ⟨i + 1, _, _, HLi.out, HLn.out, rfl, by go_num, HO5, HN, hbel5⟩
        · obtain rfl : i = L.length := by omega
          have HN : Hid (Cm.UD (cws g n)) := HR.out.fin HGo.out
          subst hv
          have hdl : decide (((L.length : Nat) : Int) < ((L.length : Nat) : Int)) = false := decide_eq_false (by omega)
          clear hrow2 HO HR
          generalize L.length = q at hdl ⊢
          go_wp2
          go_ret
          exact ⟨⟨true, rfl, ⟨fun _ => HN.out, fun _ => rfl⟩⟩, hbel⟩
theorem Sole_all {A : Option Addr} {n c : Nat} {g : Nat → ByteArray} (w : World) (h : SRow w A n g) (hc : n ≤ c) :
    Calls Try.prog 26 #[.slice A n c] w (AskPost Cm.UD (cws g n) w) := by
  have hK := check_any w h hc
  go_enter Try.func26, Try.ntmps26
  by_cases hE : Cm.cErr (cws g n) = 0
  · have hg := Cm.cErr_zero.1 hE
    have hS := sole_any (c := c) w h hg
    have HE0 := hid hE
    rw [hE] at hK
    clear hg hE h
    go_wp2_with fail
    with_reducible refine hK.mono ?_
    rintro e w1 ⟨rfl, rfl⟩
    clear hK
    go_wp2_with fail
    with_reducible refine hS.mono ?_
    rintro e w2 ⟨⟨b, rfl, hb⟩, hb2⟩
    have HB := hid hb
    clear hS hb
    go_wp2
    go_ret2
    exact AskPost.ok HE0.out HB.out hb2
  · have hE' : (Cm.cErr (cws g n) != 0) = true := bne_iff_ne.2 hE
    have HE := hid hE
    clear hE h
    obtain ⟨E, hEE⟩ : ∃ E, E = Cm.cErr (cws g n) := ⟨_, rfl⟩
    have HEE := hid hEE
    rw [← hEE] at hK hE'
    clear hEE
    go_wp2_with fail
    with_reducible refine hK.mono ?_
    rintro e w1 ⟨rfl, rfl⟩
    clear hK
    go_wp2
    go_ret2
    exact AskPost.no HE.out HEE.out (Below.refl _ _)
end Go.Proofs.Ytmgkoliindicgaa
