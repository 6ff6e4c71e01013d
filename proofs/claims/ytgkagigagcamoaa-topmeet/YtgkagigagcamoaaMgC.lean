
/-
The contracts of package merge.
-/
import Derived.Test.YtgkagigagcamoaaMgP
import Derived.Test.YtgkagigagcamoaaMgK
import Derived.Test.YtgkagigagcamoaaMgS
import Derived.Test.YtgkagigagcamoaaRefBeh
import Derived.Test.YtgkagigagcamoaaSeg45
namespace Go.Proofs.Ytgkagigagcamoaa
open Go.RowKit

/-- A list of edits that came in. -/
structure EvIn (w : World) (A : Option Addr) (n : Nat) (g : Nat → Es.Ev) : Prop where
  row : EvRow w A n g
  wf : ∀ k, k < n → EvWf (g k)
  len : n ≤ maxLen
theorem EvIn.keep {w w' : World} {A : Option Addr} {n : Nat} {g : Nat → Es.Ev} (h : EvIn w A n g) (hb : Below w.heap.size w w') : EvIn w' A n g := ⟨h.row.keep hb, h.wf, h.len⟩
theorem EvIn.none_ (w : World) (g : Nat → Es.Ev) : EvIn w none 0 g := ⟨fun _ hk => absurd hk (Nat.not_lt_zero _), fun _ hk => absurd hk (Nat.not_lt_zero _), Nat.zero_le _⟩
def I64 (N : Int) : Prop := -9223372036854775808 ≤ N ∧ N ≤ 9223372036854775807
/-- A list of edits and an error in new memory, with what they are. -/
def MgPost (P : List Es.Ev → Int → Prop) (w : World) (e : Ending) (w' : World) : Prop :=
  ∃ (C : Option Addr) (c : Nat) (l : List Es.Ev) (x : Int), e = .returned (.tuple #[.slice C l.length c, .int .i64 x]) ∧ l.length ≤ c ∧ P l x ∧ EvRow w' C l.length (fun k => l.getD k Es.none_) ∧ Below w.heap.size w w'

/-- A row of edits that may be written. -/
def EvWr (base : Nat) (w : World) (A : Option Addr) (n : Nat) (F : Nat → Es.Ev) : Prop :=
  ∀ k, k < n → ∃ b o, A = some ⟨b, o, none⟩ ∧ base ≤ b ∧ b < w.heap.size ∧ Ev3 w b (o + k * 3) (F k)
theorem EvWr.keep {base : Nat} {w w' : World} {A : Option Addr} {n : Nat} {F : Nat → Es.Ev} (h : EvWr base w A n F) (hb : Below w.heap.size w w') : EvWr base w' A n F := fun k hk => by
  obtain ⟨b, o, h1, h2, h3, h4⟩ := h k hk
  exact ⟨b, o, h1, h2, Nat.lt_of_lt_of_le h3 hb.size, h4.block (hb.block b h3)⟩
theorem EvWr.row {base : Nat} {w : World} {A : Option Addr} {n : Nat} {F : Nat → Es.Ev} (h : EvWr base w A n F) : EvRow w A n F := fun k hk => by
  obtain ⟨b, o, h1, _, h3, h4, h5, h6, _⟩ := h k hk
  exact ⟨b, o, h1, h3, h4, h5, h6⟩
theorem EvWr.congr {base : Nat} {w : World} {A : Option Addr} {n : Nat} {F G : Nat → Es.Ev} (h : EvWr base w A n F) (e : ∀ k, k < n → F k = G k) : EvWr base w A n G := fun k hk => by
  obtain ⟨b, o, h1, h2, h3, h4⟩ := h k hk
  exact ⟨b, o, h1, h2, h3, e k hk ▸ h4⟩
theorem OwnE.evWr {w : World} {base : Nat} {v : Value} {L : List Es.Ev} (h : OwnE w base v L) : ∃ A c, v = .slice A L.length c ∧ L.length ≤ c ∧ EvWr base w A L.length (fun k => L.getD k Es.none_) := by
  by_cases h0 : 0 < L.length
  · obtain ⟨g, cap, h1, h2, h3, h4, h5⟩ := h.evAt h0
    exact ⟨_, cap, h1, h2, fun k hk => ⟨g, 0, rfl, h3, h4, h5 k hk⟩⟩
  · obtain ⟨A, c, h1, h2, _⟩ := h.row
    exact ⟨A, c, h1, h2, fun k hk => absurd hk (by omega)⟩
theorem ev3_set0 {w : World} {b p : Nat} {x : Es.Ev} (h : Ev3 w b p x) (z : Int) : Ev3 (w.setCell ⟨b, p, none⟩ (.int .i64 z)) b p ⟨z, x.d, x.s⟩ := by
  obtain ⟨h1, h2, h3, h4, h5, h6⟩ := h
  have n1 : ∀ q r : Nat, q ≠ r → (⟨b, q, none⟩ : Addr) ≠ ⟨b, r, none⟩ := fun q r e h => e (by injection h)
  refine ⟨World.cell?_setCell_same _ _ _ h1, ?_, ?_, by simpa using h4, by simpa using h5, by simpa using h6⟩
  · rw [World.cell?_setCell_other _ _ _ _ (n1 _ _ (by omega))]; exact h2
  · rw [World.cell?_setCell_other _ _ _ _ (n1 _ _ (by omega))]; exact h3
theorem ev3_apart {w : World} {b p q : Nat} {x : Es.Ev} (h : Ev3 w b q x) (z : Int) (hne : q + 3 ≤ p ∨ p + 3 ≤ q) : Ev3 (w.setCell ⟨b, p, none⟩ (.int .i64 z)) b q x := by
  obtain ⟨h1, h2, h3, h4, h5, h6⟩ := h
  have n1 : ∀ q r : Nat, q ≠ r → (⟨b, q, none⟩ : Addr) ≠ ⟨b, r, none⟩ := fun q r e h => e (by injection h)
  refine ⟨?_, ?_, ?_, by simpa using h4, by simpa using h5, by simpa using h6⟩
  · rw [World.cell?_setCell_other _ _ _ _ (n1 _ _ (by omega))]; exact h1
  · rw [World.cell?_setCell_other _ _ _ _ (n1 _ _ (by omega))]; exact h2
  · rw [World.cell?_setCell_other _ _ _ _ (n1 _ _ (by omega))]; exact h3
theorem EvWr.set {base : Nat} {w : World} {b o n k : Nat} {F : Nat → Es.Ev} (h : EvWr base w (some ⟨b, o, none⟩) n F) (z : Int) (hk : k < n) :
    EvWr base (w.setCell ⟨b, o + k * 3, none⟩ (.int .i64 z)) (some ⟨b, o, none⟩) n (fun j => if j = k then ⟨z, (F j).d, (F j).s⟩ else F j) := fun j hj => by
  obtain ⟨b', o', h1, h2, h3, h4⟩ := h j hj
  injection h1 with h1
  injection h1 with e1 e2
  subst e1 e2
  refine ⟨b, o, rfl, h2, by simpa using h3, ?_⟩
  by_cases hjk : j = k
  · subst hjk
    simp only [if_true]
    exact ev3_set0 h4 z
  · simp only [if_neg hjk]
    exact ev3_apart h4 z (by omega)
/-- slices.SortFunc at a row of the call's own. -/
theorem sortL_any {base : Nat} {v : Value} {M : List Es.Ev} (w : World) (h : OwnE w base v M) (hB : ∀ x, x ∈ M → Bn x) (hn : M.length ≤ 1000) :
    ∃ A cap, v = .slice A M.length cap ∧ M.length ≤ cap ∧ Calls Try.prog 50 #[.slice A M.length cap, .func (.func 51) #[] #[]] w fun e w' =>
      e = .returned (.tuple #[]) ∧ ∃ L : List Es.Ev, L.length = M.length ∧ L.Perm M ∧ (L.Pairwise fun x y => x.a ≤ y.a) ∧ EvRow w' A M.length (fun k => L.getD k Es.none_) ∧ w.grownBy w' v.ownBlock := by
  by_cases h0 : 0 < M.length
  · obtain ⟨g, cap, rfl, h2, h3, h4, h5⟩ := h.evAt h0
    refine ⟨_, cap, rfl, h2, (sortF_any g 0 M.length cap _ w h5 h4 (fun k hk => ?_) hn).mono ?_⟩
    · rw [List.getD_eq_getElem?_getD, List.getElem?_eq_getElem hk]
      exact hB _ (List.getElem_mem hk)
    · rintro e w' ⟨rfl, L, k1, k2, k3, k4, k5⟩
      rw [el_of] at k2
      refine ⟨rfl, L, k1, k2, k3, fun k hk => ?_, k5⟩
      obtain ⟨a1, a2, a3, _⟩ := k4 k hk
      exact ⟨g, 0, rfl, Nat.lt_of_lt_of_le h4 k5.size, a1, a2, a3⟩
  · obtain ⟨A, c, rfl, h2, _⟩ := h.row
    obtain rfl : M = [] := List.eq_nil_of_length_eq_zero (by omega)
    refine ⟨A, c, rfl, h2, (Try.slices_SortFunc_none (α := SmEv) A c _ w).mono ?_⟩
    rintro e w' ⟨rfl, rfl⟩
    exact ⟨rfl, [], rfl, .refl _, .nil, fun k hk => absurd hk (Nat.not_lt_zero _), ⟨rfl, rfl, rfl, Nat.le_refl _, fun _ _ _ => rfl⟩⟩
theorem bo_nat {N : Nat} {a b l : List Es.Ev} {x : Int} (h : BoIs N a b l x) : BoIs (N : Int).toNat a b l x := by rw [Int.toNat_natCast]; exact h
theorem wf_few {N : Nat} {L : List Es.Ev} (h : Es.eErr N L = 0) {x : Es.Ev} (hx : x ∈ L) : EvWf x := by
  obtain ⟨hc, h2, _, _⟩ := Es.err_ch h
  have := Es.ch_mem hc hx
  have hm : (40 : Nat) ≤ maxLen := by decide
  exact ⟨by omega, by omega, by omega, by omega, by omega⟩

theorem MCheck_any {A B : Option Addr} {n m c1 c2 : Nat} {g h : Nat → Es.Ev} (N : Int) (w : World) (h1 : EvIn w A n g) (h2 : EvIn w B m h) (hN : I64 N) :
    Calls Try.prog 46 #[.int .i64 N, .slice A n c1, .slice B m c2] w fun e w' => e = .returned (.int .i64 (mgErr N (el g n) (el h m))) ∧ Below w.heap.size w w' := by
  have H2 := hid h2
  have HN := hid hN
  have HC1 := hid (Check_any (c := c1) N w h1.row h1.wf h1.len hN.1 hN.2)
  clear h1 h2 hN
  go_enter Try.func46, Try.ntmps46
  go_wp2_with fail
  with_reducible refine HC1.out.mono ?_
  rintro e w1 ⟨rfl, hb1⟩
  have HB1 := hid hb1
  have HC2 := hid (Check_any (c := c2) N w1 (H2.out.row.keep hb1) H2.out.wf H2.out.len HN.out.1 HN.out.2)
  obtain ⟨x, hx⟩ : ∃ x, x = Es.eErr N (el g n) := ⟨_, rfl⟩
  rw [← hx]
  have hM : Hid (mgErr N (el g n) (el h m) = if x = 0 then Es.eErr N (el h m) else x) := by
    show _ = _
    unfold mgErr
    rw [← hx]
  clear hb1 hx HC1
  by_cases hx0 : x = 0
  · subst hx0
    go_wp2_with fail
    with_reducible refine HC2.out.mono ?_
    rintro e w2 ⟨rfl, hb2⟩
    have HB2 := hid (bl_then HB1.out hb2)
    clear hb2
    go_wp2
    go_ret
    have hm0 : mgErr N (el g n) (el h m) = Es.eErr N (el h m) := by simpa using hM.out
    exact ⟨by rw [hm0]; rfl, HB2.out⟩
  · have hxx : (x != 0) = true := bne_iff_ne.2 hx0
    have HX0 := hid hx0
    clear hx0
    go_wp2
    go_ret
    exact ⟨by rw [hM.out, if_neg HX0.out]; rfl, HB1.out⟩

set_option maxHeartbeats 2000000 in
theorem Both_any {A B : Option Addr} {n m c1 c2 : Nat} {g h : Nat → Es.Ev} (N : Int) (w : World) (h1 : EvIn w A n g) (h2 : EvIn w B m h) (hN : I64 N) :
    Calls Try.prog 30 #[.int .i64 N, .slice A n c1, .slice B m c2] w (MgPost (BothIs N (el g n) (el h m)) w) := by
  have H1 := hid h1
  have H2 := hid h2
  have HN := hid hN
  have HC := hid (MCheck_any (c1 := c1) (c2 := c2) N w h1 h2 hN)
  clear h1 h2 hN
  go_enter Try.func30, Try.ntmps30
  go_wp2_with fail
  with_reducible refine HC.out.mono ?_
  rintro e w1 ⟨rfl, hb1⟩
  have HB1 := hid hb1
  obtain ⟨x, hx⟩ : ∃ x, x = mgErr N (el g n) (el h m) := ⟨_, rfl⟩
  rw [← hx]
  have HX := hid hx
  clear hb1 hx HC
  by_cases hx0 : x = 0
  · subst hx0
    obtain ⟨he1, he2⟩ := mg_zero.1 HX.out.symm
    obtain ⟨N', rfl, _, _⟩ := err_nat he1
    have hn : n ≤ 20 := by have := (Es.err_ch he1).2.2.1; rw [el_len] at this; exact this
    have hm : m ≤ 20 := by have := (Es.err_ch he2).2.2.1; rw [el_len] at this; exact this
    have HE1 := hid he1
    have HE2 := hid he2
    have HCL := hid (clash_any (c1 := c1) (c2 := c2) w1 (H1.out.row.keep HB1.out) (H2.out.row.keep HB1.out) (fun k hk => bn_of he1 (el_in hk)) (fun k hk => bn_of he2 (el_in hk)) (by omega) (by omega))
    clear he1 he2
    go_wp2_with fail
    with_reducible refine HCL.out.mono ?_
    rintro e w2 ⟨rfl, hb2⟩
    have HB2 := hid (bl_then HB1.out hb2)
    clear hb2 HCL
    by_cases hc : Es.clsB (el g n) (el h m) = true
    · have HF := hid (Es.clsB_iff.1 hc)
      rw [hc]
      clear hc
      go_wp2
      go_ret2
      exact ⟨none, 0, [], 9, rfl, Nat.le_refl _, .inr ⟨HX.out.symm, .inl ⟨HF.out, rfl, rfl⟩⟩, fun k hk => absurd hk (Nat.not_lt_zero _), HB2.out⟩
    · have hc := Bool.eq_false_iff.2 hc
      have HF := hid (Es.clsB_no.1 hc)
      rw [hc]
      have HW := hid (without_any (c1 := c2) (c2 := c1) w2 (H2.out.row.keep HB2.out) (H1.out.row.keep HB2.out) (show m ≤ 100000 by omega) (show n ≤ 100000 by omega))
      clear hc
      go_wp2_with fail
      with_reducible refine HW.out.mono ?_
      rintro e w3 ⟨v, rfl, hown, hb3⟩
      obtain ⟨Q, hQ⟩ : ∃ Q, Q = Es.wo (el g n) (el h m) := ⟨_, rfl⟩
      rw [← hQ] at hown
      have HQ := hid hQ
      have hql : Q.length ≤ 20 := by have := Es.wo_len (el g n) (el h m); rw [← hQ, el_len] at this; omega
      obtain ⟨A3, c3, rfl, _, hrow3⟩ := hown.row
      have HB3 := hid (bl_then HB2.out hb3)
      have HP := hid (partsE_two (c1 := c1) (c2 := c3) (t := 54) (N := w3.heap.size) rfl (H1.out.row.keep HB3.out) hrow3)
      have HB4 := hid (bl_then HB3.out (bl_new w3 (.cells #[.slice A n c1, .slice A3 Q.length c3] 54)))
      have HLT : Hid (w3.heap.size < (w3.alloc (.cells #[.slice A n c1, .slice A3 Q.length c3] 54)).heap.size) := by show _ < _; simp
      have HCT : Hid (catE (twoNE n Q.length) (twoGE g fun k => Q.getD k Es.none_) 2 = el g n ++ Q) := by show _ = _; rw [catE_two, el_of]
      have HCLN : Hid ((catE (twoNE n Q.length) (twoGE g fun k => Q.getD k Es.none_) 2).length ≤ 100000) := by show _ ≤ _; rw [HCT.out, List.length_append, el_len]; omega
      clear hown hb3 hrow3 hQ HW
      go_wp2_with fail
      with_reducible refine (concatE_any w3.heap.size 0 2 2 _ _ _ HLT.out HP.out HCLN.out (by decide)).mono ?_
      rintro e w4 ⟨v, rfl, hown, hb4⟩
      rw [HCT.out] at hown
      have HB5 := hid (bl_then HB4.out hb4)
      obtain ⟨M, hM⟩ : ∃ M, M = el g n ++ Q := ⟨_, rfl⟩
      rw [← hM] at hown
      have HM := hid hM
      have hml : M.length ≤ 40 := by rw [hM, List.length_append, el_len]; omega
      have hin : ∀ z, z ∈ M → z ∈ el g n ∨ z ∈ el h m := fun z hz => by
        rw [hM, List.mem_append, HQ.out, Es.wo_mem] at hz
        rcases hz with hz | hz
        · exact .inl hz
        · exact .inr hz.1
      have HIN := hid hin
      have hbn : ∀ z, z ∈ M → Bn z := fun z hz => by
        rcases hin z hz with k | k
        · exact bn_of HE1.out k
        · exact bn_of HE2.out k
      have HGE : Hid (∀ k, v.ownBlock = some k → w.heap.size ≤ k) := fun k hk => Nat.le_trans HB4.out.size (hown.lt_ k hk).1
      obtain ⟨A4, c4, rfl, hc4, hsort⟩ := sortL_any w4 hown hbn (by omega)
      have HS := hid hsort
      clear hsort hown hb4 hM hin hbn HP HLT HCT HCLN
      go_wp2_with fail
      with_reducible refine HS.out.mono ?_
      rintro e w5 ⟨rfl, L, hl, hp, hs, hrow, hgr⟩
      have HBO := hid (Es.isBo_sorted (Es.err_ch HE1.out).1 (Es.err_ch HE2.out).1 HF.out (G := L) (by rw [← HQ.out, ← HM.out]; exact hp) hs)
      have HB6 : Hid (Below w.heap.size w w5) := hid (HB5.out.grown hgr HB5.out.size HGE.out)
      rw [← hl] at hrow hc4 hml ⊢
      have HROW := hid hrow
      have hwf : ∀ k, k < L.length → EvWf (L.getD k Es.none_) := fun k hk => by
        rw [List.getD_eq_getElem?_getD, List.getElem?_eq_getElem hk]
        have : L[k] ∈ M := hp.mem_iff.1 (List.getElem_mem hk)
        rcases HIN.out _ this with q | q
        · exact wf_few HE1.out q
        · exact wf_few HE2.out q
      have HCK := hid (Check_any (c := c4) (N' : Int) w5 hrow hwf (Nat.le_trans hml (by decide)) HN.out.1 HN.out.2)
      clear hl hp hs hrow hgr hwf HS
      go_wp2_with fail
      with_reducible refine HCK.out.mono ?_
      rintro e w6 ⟨rfl, hb6⟩
      rw [el_of]
      have HB7 := hid (bl_then HB6.out hb6)
      have HROW2 := hid (HROW.out.keep hb6)
      obtain ⟨x, hx⟩ : ∃ x, x = Es.eErr N' L := ⟨_, rfl⟩
      rw [← hx]
      have HXE := hid hx
      clear hb6 hx HCK
      by_cases hx0 : x = 0
      · subst hx0
        go_wp2
        go_ret2
        exact ⟨A4, c4, L, 0, rfl, hc4, .inr ⟨HX.out.symm, bo_nat (.inr ⟨HF.out, L, HBO.out, .inr ⟨HXE.out.symm, rfl, rfl⟩⟩)⟩, HROW2.out, HB7.out⟩
      · have hxx : (x != 0) = true := bne_iff_ne.2 hx0
        have HX0 := hid hx0
        clear hx0
        go_wp2
        go_ret2
        exact ⟨none, 0, [], x, rfl, Nat.le_refl _, .inr ⟨HX.out.symm, bo_nat (.inr ⟨HF.out, L, HBO.out, .inl ⟨by rw [← HXE.out]; exact HX0.out, HXE.out, rfl⟩⟩)⟩, fun k hk => absurd hk (Nat.not_lt_zero _), HB7.out⟩
  · have hxx : (x != 0) = true := bne_iff_ne.2 hx0
    have HX0 := hid hx0
    clear hx0
    go_wp2
    go_ret2
    exact ⟨none, 0, [], x, rfl, Nat.le_refl _, .inl ⟨by rw [← HX.out]; exact HX0.out, HX.out, rfl⟩, fun k hk => absurd hk (Nat.not_lt_zero _), HB1.out⟩

end Go.Proofs.Ytgkagigagcamoaa
