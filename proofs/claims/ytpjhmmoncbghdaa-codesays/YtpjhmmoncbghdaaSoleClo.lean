/-
The contract of quillref.SoleCode's function: can what is over be made even?
-/
import Derived.Test.YtpjhmmoncbghdaaSoleMem
import Derived.Test.YtpjhmmoncbghdaaShelfK
import Derived.Deep.RegionHeld3
namespace Go.Proofs.Ytpjhmmoncbghdaa
open Go.RowKit

theorem solePre {s p : List UInt8} : Lib.hasPrefix s p = true ↔ p <+: s := by unfold Lib.hasPrefix; exact List.isPrefixOf_iff_prefix
theorem sole_has {s p : ByteArray} {b : Bool} (h : b = true ↔ wd p <+: wd s) (W : World) : Calls Try.prog 38 #[.string s, .string p] W fun e w' => e = .returned (.bool b) ∧ w' = W := by
  refine (Try.strings_HasPrefix s p W).mono ?_
  rintro e w1 ⟨rfl, rfl⟩
  refine ⟨?_, rfl⟩
  congr 2
  rw [Bool.eq_iff_iff, h]
  exact solePre
theorem rest_of {a b : List UInt8} (h : a <+: b) : b = a ++ b.drop a.length := by
  obtain ⟨t, rfl⟩ := h
  rw [List.drop_left]
/-- In the round of one word: what the loop has done so far. -/
def TwAt (W : List (List UInt8)) (M : Nat) (S1 : List (List UInt8)) (K1 : Nat) (over : List UInt8) (g : Nat → ByteArray) (k : Nat) (wr : World) : Prop :=
  ∃ (S2 : List (List UInt8)) (K2 : Nat), CMap wr M S2 K2 ∧ [] ∉ S2 ∧ (∀ o ∈ S1, o ∈ S2) ∧ K2 + 24 * Cm.left W S2 ≤ K1 + 24 * Cm.left W S1 + k ∧
    (∀ j, j < k → ∀ o', (wd (g j) = over ++ o' ∨ over = wd (g j) ++ o') → o' ∈ S2) ∧ ∀ o ∈ S2, o ∉ S1 → ∀ o', Cm.Stp W o o' → o' ∈ S2
/-- A word of which neither begins the other. -/
theorem TwAt.none_ {W : List (List UInt8)} {M : Nat} {S1 : List (List UInt8)} {K1 : Nat} {over : List UInt8} {g : Nat → ByteArray} {k : Nat} {wr w' : World} {row : Option Nat} (h : TwAt W M S1 K1 over g k wr) (hg : wr.grownBy w' row) (hne : some M ≠ row) (h1 : ¬ over <+: wd (g k)) (h2 : ¬ wd (g k) <+: over) : TwAt W M S1 K1 over g (k + 1) w' := by
  obtain ⟨S2, K2, c1, c2, c3, c4, c5, c6⟩ := h
  refine ⟨S2, K2, c1.kept hg hne, c2, c3, by omega, fun j hj o' ho => ?_, c6⟩
  by_cases e : j = k
  · subst e
    rcases ho with ho | ho
    · exact absurd ⟨o', ho.symm⟩ h1
    · exact absurd ⟨o', ho.symm⟩ h2
  · exact c5 j (by omega) o' ho
/-- A word after which something was over, and it was not made even. -/
theorem twAt_next {W : List (List UInt8)} {M : Nat} {S1 S2 S6 : List (List UInt8)} {K1 K2 K6 : Nat} {over r : List UInt8} {g : Nat → ByteArray} {k : Nat} {w6 : World}
    (c3 : ∀ o ∈ S1, o ∈ S2) (c4 : K2 + 24 * Cm.left W S2 ≤ K1 + 24 * Cm.left W S1 + k) (c5 : ∀ j, j < k → ∀ o', (wd (g j) = over ++ o' ∨ over = wd (g j) ++ o') → o' ∈ S2) (c6 : ∀ o ∈ S2, o ∉ S1 → ∀ o', Cm.Stp W o o' → o' ∈ S2)
    (q2 : CMap w6 M S6 K6) (q3 : [] ∉ S6) (q4 : ∀ o ∈ S2, o ∈ S6) (q5 : K6 + 24 * Cm.left W S6 ≤ K2 + 24 * Cm.left W S2 + 1) (q7 : r ∈ S6 ∧ ∀ o ∈ S6, o ∉ S2 → ∀ o', Cm.Stp W o o' → o' ∈ S6)
    (hr : ∀ o', (wd (g k) = over ++ o' ∨ over = wd (g k) ++ o') → o' = r) : TwAt W M S1 K1 over g (k + 1) w6 := by
  refine ⟨S6, K6, q2, q3, fun o ho => q4 o (c3 o ho), by omega, fun j hj o' ho => ?_, fun o ho hn o' hs => ?_⟩
  · by_cases e : j = k
    · subst e; rw [hr o' ho]; exact q7.1
    · exact q4 _ (c5 j (by omega) o' ho)
  · by_cases h2 : o ∈ S2
    · exact q4 _ (c6 o h2 hn o' hs)
    · exact q7.2 o ho h2 o' hs
set_option maxHeartbeats 4000000 in
theorem twice_step (Bm Bl Bt M : Nat) (A : Option Addr) (n c : Nat) (g : Nat → ByteArray) (hn : n ≤ 12) (hgood : Cm.Good (cws g n)) (S : List (List UInt8)) (K : Nat) (w : World) (over : ByteArray)
    (hW : SoleW w Bm Bl Bt M A n c g) (hC : CMap w M S K) (h0 : [] ∉ S) (hE : Cm.End (cws g n) (wd over)) (hK : K + 24 * Cm.left (cws g n) S + 1 ≤ 900000)
    (hrec : ∀ (S2 : List (List UInt8)) (K2 : Nat) (w2 : World) (over2 : ByteArray), SoleW w2 Bm Bl Bt M A n c g → CMap w2 M S2 K2 → [] ∉ S2 → Cm.End (cws g n) (wd over2) → Cm.left (cws g n) S2 < Cm.left (cws g n) S → K2 + 24 * Cm.left (cws g n) S2 + 1 ≤ 900000 →
      Calls Try.prog 39 #[.string over2, .pointer (some ⟨Bm, 0, none⟩), .pointer (some ⟨Bl, 0, none⟩), .pointer (some ⟨Bt, 0, none⟩)] w2 (TwPost (cws g n) M S2 K2 (wd over2) w2)) :
    Calls Try.prog 39 #[.string over, .pointer (some ⟨Bm, 0, none⟩), .pointer (some ⟨Bl, 0, none⟩), .pointer (some ⟨Bt, 0, none⟩)] w (TwPost (cws g n) M S K (wd over) w) := by
  have hos : over.size ≤ 12 := by
    obtain ⟨v, hv, h1⟩ := hE
    have h2 := h1.length_le
    have h3 := hgood.short v hv
    rw [wd_len] at h2
    omega
  have HRec := hid hrec
  have HW := hid hW
  have HE := hid hE
  have HGo := hid hgood
  clear hrec hE hgood
  by_cases hz : over.size = 0
  · have hze := no_bytes hz
    have HF : Hid (TwPost (cws g n) M S K (wd over) w (.returned (.bool true)) w) := ⟨true, S, K, rfl, World.grownBy.refl _ _, hC, h0, fun _ h => h, by omega, fun _ => (by
      have hnil : wd over = [] := List.eq_nil_of_length_eq_zero (by rw [wd_len]; exact hz)
      rw [hnil]
      exact Cm.Tw.nil), fun h => (by cases h)⟩
    clear hC hW
    go_enter Try.func39, Try.ntmps39
    go_wp2
    go_ret
    exact HF.out
  · have hze := some_bytes (s := over) (by omega)
    have HNe : Hid (wd over ≠ []) := fun e => hz (by rw [← wd_len, e]; rfl)
    obtain ⟨cc, hc1, hc2, hlook, w1, hupd, hC1, hg1, hlook1⟩ := hC.count over (by unfold maxLen; omega) (by omega)
    have hcm := hW.cm
    have hW1 := hW.kept hg1
    have hcm1 := hW1.cm
    have hcl1 := hW1.cl
    have HC1 := hid hC1
    have HG1 := hid hg1
    have h01 : [] ∉ wd over :: S := fun h => by
      rcases List.mem_cons.1 h with h | h
      · exact HNe.out h.symm
      · exact h0 h
    clear hC hC1 hg1 hW hW1 hz
    by_cases hcc : 0 < cc
    · have hgt : (1 : Int) < (cc : Int) + 1 := by omega
      have hin := hc2.1 hcc
      have HF : Hid (TwPost (cws g n) M S K (wd over) w (.returned (.bool false)) w1) := by
        refine ⟨false, wd over :: S, K + 1, rfl, HG1.out, HC1.out, h01, fun o ho => List.mem_cons_of_mem _ ho, ?_, fun h => (by cases h), fun _ => ⟨List.mem_cons_self, fun o ho hno => ?_⟩⟩
        · have := left_mono (W := cws g n) (S := S) (S' := wd over :: S) fun o ho => List.mem_cons_of_mem _ ho
          omega
        · rcases List.mem_cons.1 ho with rfl | ho
          · exact absurd hin hno
          · exact absurd ho hno
      clear HC1 HG1 hc2 hin
      go_enter Try.func39, Try.ntmps39
      go_wp2
      go_ret
      exact HF.out
    · obtain rfl : cc = 0 := by omega
      have hnin : wd over ∉ S := fun h => hcc (hc2.2 h)
      have hlt := Cm.left_add HE.out hnin
      have HLT := hid hlt
      have HT0 : Hid (TwAt (cws g n) M (wd over :: S) (K + 1) (wd over) g 0 w1) := ⟨wd over :: S, K + 1, HC1.out, h01, fun _ h => h, by omega, fun j hj => by omega, fun o ho hno => absurd ho hno⟩
      clear hc2 hcc HC1 hnin h01 hlt
      rw [show (((0 : Nat) : Int) + 1) = 1 from rfl] at hupd hlook1
      rw [show ((0 : Nat) : Int) = 0 from rfl] at hlook
      go_enter Try.func39, Try.ntmps39
      go_wp2
      go_loopw [20] (fun y wr => ∃ k : Nat, k ≤ n ∧ y = .int .i64 (k : Int) ∧ Hid (w.grownBy wr (some M)) ∧ Hid (TwAt (cws g n) M (wd over :: S) (K + 1) (wd over) g k wr)) (fun y _ => n - (intOf y).toNat)
      case atStart => exact ⟨0, by omega, rfl, HG1, HT0⟩
      case round =>
        clear HG1 HT0 hlook hlook1 hupd hcm hcm1 hcl1
        obtain ⟨k, hk, rfl, HG, HT⟩ := hrel
        by_cases hkn : k < n
        · have hkn' : (k : Int) < (n : Int) := by omega
          have hWr := HW.out.kept HG.out
          obtain ⟨b, o, rfl, _, hcell⟩ := hWr.row k hkn
          have hct := hWr.ct
          have hnt := hWr.nt
          have hmem : wd (g k) ∈ cws g n := mem_cws.2 ⟨k, hkn, rfl⟩
          have hxs : (g k).size ≤ 12 := by have := HGo.out.short _ hmem; rw [wd_len] at this; exact this
          have hWd : SoleW wr.drew Bm Bl Bt M (some ⟨b, o, none⟩) n c g := ⟨hWr.cm, hWr.cl, hWr.ct, hWr.row, hWr.nm, hWr.nl, hWr.nt, hWr.nr⟩
          have HWd := hid hWd
          clear hWr hWd
          by_cases h1 : wd over <+: wd (g k)
          · obtain ⟨S2, K2, c1, c2, c3, c4, c5, c6⟩ := HT.out
            have hle : over.size ≤ (g k).size := by have := h1.length_le; rw [wd_len, wd_len] at this; exact this
            have hle' : (over.size : Int) ≤ (g k).size := by omega
            have hrd : wd ((g k).extract over.size (g k).size) = (wd (g k)).drop (wd over).length := by rw [wd_drop, wd_len]
            have hdec := rest_of h1
            have hrecw := HRec.out S2 K2 wr.drew ((g k).extract over.size (g k).size) HWd.out c1 c2 (HE.out.step ⟨_, hmem, .inl (by rw [hrd]; exact hdec)⟩) (by have := left_mono (W := cws g n) c3; have := HLT.out; omega) (by have := HLT.out; omega)
            have htw : Cm.Tw (cws g n) (wd ((g k).extract over.size (g k).size)) → Cm.Tw (cws g n) (wd over) := fun h => Cm.Tw.of_step ⟨_, hmem, .inl (by rw [hrd]; exact hdec)⟩ h
            have hru : ∀ o', (wd (g k) = wd over ++ o' ∨ wd over = wd (g k) ++ o') → o' = wd ((g k).extract over.size (g k).size) := by
              rw [hrd]
              rintro o' (ho | ho)
              · rw [ho, List.drop_left]
              · have e1 : (wd over).length = (wd (g k)).length + o'.length := by rw [ho, List.length_append]
                have e2 := h1.length_le
                have e3 : o' = [] := List.eq_nil_of_length_eq_zero (by omega)
                rw [e3, List.append_nil] at ho
                rw [e3, ho, List.drop_length]
            have hboth : ∀ {S6 : List (List UInt8)}, wd (g k) <+: wd over → [] ∉ S6 → wd ((g k).extract over.size (g k).size) ∉ S6 := by
              intro S6 h2 h3 h4
              have e : wd (g k) = wd over := h2.eq_of_length_le h1.length_le
              rw [hrd, e, List.drop_length] at h4
              exact h3 h4
            have hp1 := fun W => sole_has (s := g k) (p := over) (b := true) ⟨fun _ => h1, fun _ => rfl⟩ W
            clear hdec hrd h1 HT c1 c2
            generalize hgx : g k = x at hcell hxs hle hle' hrecw htw hru hboth hp1 hmem
            have HGX := hid hgx
            clear hgx
            go_wp2
            refine wp_region_held_drew (S := fun W => W.cell? ⟨Bt, 0, none⟩ = some (.func (.func 39) #[] #[.pointer (some ⟨Bm, 0, none⟩), .pointer (some ⟨Bl, 0, none⟩), .pointer (some ⟨Bt, 0, none⟩)])) (by kernel_rfl) hct (fun hHeld => ?_)
            refine wpAnyH_take (i := 0) (oi := { dst := Option.some 24, op := Op.move (Operand.tmp 7), type := 9, pos := "mid.go:54", after := #[], guard := Option.none }) (v := ?tv1) rfl (by kernel_rfl) (by kernel_rfl) (by kernel_rfl) (fun _ _ _ h => h) (Or.inl ⟨by rfl, ?ty1⟩) (by assumption) ?tr1; (case ty1 => (intro w hSw; (try dsimp only at hSw); go_simp; try (with_reducible rfl))); (try simp only [Act.put, List.setIfInBounds_toArray, List.set_cons_zero, List.set_cons_succ]); refine wpAnyH_take (i := 1) (oi := { dst := Option.some 25, op := Op.move (Operand.tmp 0), type := 9, pos := "mid.go:54", after := #[], guard := Option.none }) (v := ?tv2) rfl (by kernel_rfl) (by kernel_rfl) (by kernel_rfl) (fun _ _ _ h => h) (Or.inl ⟨by rfl, ?ty2⟩) (by assumption) ?tr2; (case ty2 => (intro w hSw; (try dsimp only at hSw); go_simp; try (with_reducible rfl))); (try simp only [Act.put, List.setIfInBounds_toArray, List.set_cons_zero, List.set_cons_succ])
            refine wpAnyH_ready (rs := [2]) (by kernel_rfl) (by simp) ?_
            refine AllReadyH.cons (o := { dst := Option.some 26, op := Op.call { callee := Callee.value (Operand.func 38), args := #[Operand.tmp 24, Operand.tmp 25], argTypes := #[9, 9] }, type := 4, pos := "mid.go:54", after := #[{ on := 0, ground := Ground.data }, { on := 1, ground := Ground.data }], guard := Option.none }) rfl (fun K0 hK => ?_) AllReadyH.nil
            go_simp
            with_reducible refine (hp1 _).mono ?_
            rintro e w5 ⟨rfl, rfl⟩
            refine hK.out _ _ hct (fun hHeld => ?_)
            clear hK K0
            (try simp only [Act.put, List.setIfInBounds_toArray, List.set_cons_zero, List.set_cons_succ])
            refine wpAnyH_take (i := 3) (oi := { dst := Option.some 27, op := Op.move (Operand.tmp 26), type := 4, pos := "mid.go:54", after := #[{ on := 2, ground := Ground.data }, { on := 2, ground := Ground.chain }], guard := Option.none }) (v := ?tv3) rfl (by kernel_rfl) (by kernel_rfl) (by kernel_rfl) (fun _ _ _ h => h) (Or.inl ⟨by rfl, ?ty3⟩) (by assumption) ?tr3; (case ty3 => (intro w hSw; (try dsimp only at hSw); go_simp; try (with_reducible rfl))); (try simp only [Act.put, List.setIfInBounds_toArray, List.set_cons_zero, List.set_cons_succ]); refine wpAnyH_take (i := 4) (oi := { dst := Option.some 28, op := Op.load 64 (Operand.tmp 3), type := 64, pos := "mid.go:54", after := #[{ on := 3, ground := Ground.guard }], guard := Option.some (3, Bool.true) }) (v := ?tv4) rfl (by kernel_rfl) (by kernel_rfl) (by kernel_rfl) (fun _ _ _ h => h) (Or.inl ⟨by rfl, ?ty4⟩) (by assumption) ?tr4; (case ty4 => (intro w hSw; (try dsimp only at hSw); go_simp; try (with_reducible rfl))); (try simp only [Act.put, List.setIfInBounds_toArray, List.set_cons_zero, List.set_cons_succ]); refine wpAnyH_take (i := 5) (oi := { dst := Option.some 29, op := Op.move (Operand.tmp 7), type := 9, pos := "mid.go:54", after := #[{ on := 3, ground := Ground.guard }], guard := Option.some (3, Bool.true) }) (v := ?tv5) rfl (by kernel_rfl) (by kernel_rfl) (by kernel_rfl) (fun _ _ _ h => h) (Or.inl ⟨by rfl, ?ty5⟩) (by assumption) ?tr5; (case ty5 => (intro w hSw; (try dsimp only at hSw); go_simp; try (with_reducible rfl))); (try simp only [Act.put, List.setIfInBounds_toArray, List.set_cons_zero, List.set_cons_succ]); refine wpAnyH_take (i := 6) (oi := { dst := Option.some 30, op := Op.move (Operand.tmp 0), type := 9, pos := "mid.go:54", after := #[{ on := 3, ground := Ground.guard }], guard := Option.some (3, Bool.true) }) (v := ?tv6) rfl (by kernel_rfl) (by kernel_rfl) (by kernel_rfl) (fun _ _ _ h => h) (Or.inl ⟨by rfl, ?ty6⟩) (by assumption) ?tr6; (case ty6 => (intro w hSw; (try dsimp only at hSw); go_simp; try (with_reducible rfl))); (try simp only [Act.put, List.setIfInBounds_toArray, List.set_cons_zero, List.set_cons_succ]); refine wpAnyH_take (i := 7) (oi := { dst := Option.some 31, op := Op.call { callee := Callee.builtin Builtin.len, args := #[Operand.tmp 30], argTypes := #[9] }, type := 3, pos := "mid.go:54", after := #[{ on := 6, ground := Ground.data }, { on := 3, ground := Ground.guard }], guard := Option.some (3, Bool.true) }) (v := ?tv7) rfl (by kernel_rfl) (by kernel_rfl) (by kernel_rfl) (fun _ _ _ h => h) (Or.inl ⟨by rfl, ?ty7⟩) (by assumption) ?tr7; (case ty7 => (intro w hSw; (try dsimp only at hSw); go_simp; try (with_reducible rfl))); (try simp only [Act.put, List.setIfInBounds_toArray, List.set_cons_zero, List.set_cons_succ]); refine wpAnyH_take (i := 8) (oi := { dst := Option.some 32, op := Op.slice 9 (Operand.tmp 29) (Option.some (Operand.tmp 31)) Option.none Option.none, type := 9, pos := "mid.go:54", after := #[{ on := 5, ground := Ground.data }, { on := 7, ground := Ground.data }, { on := 3, ground := Ground.guard }], guard := Option.some (3, Bool.true) }) (v := ?tv8) rfl (by kernel_rfl) (by kernel_rfl) (by kernel_rfl) (fun _ _ _ h => h) (Or.inl ⟨by rfl, ?ty8⟩) (by assumption) ?tr8; (case ty8 => (intro w hSw; (try dsimp only at hSw); go_simp; try (with_reducible rfl))); (try simp only [Act.put, List.setIfInBounds_toArray, List.set_cons_zero, List.set_cons_succ])
            refine wpAnyH_ready (rs := [9]) (by kernel_rfl) (by simp) ?_
            refine AllReadyH.cons (o := { dst := Option.some 33, op := Op.call { callee := Callee.value (Operand.tmp 28), args := #[Operand.tmp 32], argTypes := #[9] }, type := 4, pos := "mid.go:54", after := #[{ on := 4, ground := Ground.data }, { on := 8, ground := Ground.data }, { on := 3, ground := Ground.chain }, { on := 3, ground := Ground.guard }], guard := Option.some (3, Bool.true) }) rfl (fun K0 hK => ?_) AllReadyH.nil
            go_simp
            with_reducible refine hrecw.mono ?_
            rintro e w6 ⟨b6, S6, K6, rfl, q1, q2, q3, q4, q5, q6, q7⟩
            have hct6 := q1.cell (a := ⟨Bt, 0, none⟩) hct (by simpa using hnt)
            cases b6 with
            | true =>
              refine hK.out _ _ hct6 (fun hHeld => ?_)
              clear hK K0
              (try simp only [Act.put, List.setIfInBounds_toArray, List.set_cons_zero, List.set_cons_succ])
              refine wpAnyH_take (i := 10) (oi := { dst := Option.some 34, op := Op.pick (Operand.tmp 27) (Operand.tmp 33) (Operand.const (Value.bool Bool.false)), type := 4, pos := "mid.go:54", after := #[{ on := 3, ground := Ground.data }, { on := 9, ground := Ground.data }], guard := Option.none }) (v := ?tv9) rfl (by kernel_rfl) (by kernel_rfl) (by kernel_rfl) (fun _ _ _ h => h) (Or.inl ⟨by rfl, ?ty9⟩) (by assumption) ?tr9; (case ty9 => (intro w hSw; (try dsimp only at hSw); go_simp; try (with_reducible rfl))); (try simp only [Act.put, List.setIfInBounds_toArray, List.set_cons_zero, List.set_cons_succ]); refine wpAnyH_take (i := 11) (oi := { dst := Option.some 35, op := Op.move (Operand.tmp 34), type := 4, pos := "mid.go:54", after := #[{ on := 10, ground := Ground.data }, { on := 9, ground := Ground.chain }], guard := Option.none }) (v := ?tv10) rfl (by kernel_rfl) (by kernel_rfl) (by kernel_rfl) (fun _ _ _ h => h) (Or.inl ⟨by rfl, ?ty10⟩) (by assumption) ?tr10; (case ty10 => (intro w hSw; (try dsimp only at hSw); go_simp; try (with_reducible rfl))); (try simp only [Act.put, List.setIfInBounds_toArray, List.set_cons_zero, List.set_cons_succ]); refine wpAnyH_take (i := 12) (oi := { dst := Option.some 36, op := Op.move (Operand.tmp 0), type := 9, pos := "mid.go:54", after := #[{ on := 11, ground := Ground.guard }], guard := Option.some (11, Bool.false) }) (v := undef) rfl (by kernel_rfl) (by kernel_rfl) (by kernel_rfl) (fun _ _ _ h => h) (Or.inr ⟨by rfl, rfl⟩) (by assumption) ?_; (try simp only [Act.put, List.setIfInBounds_toArray, List.set_cons_zero, List.set_cons_succ]); refine wpAnyH_take (i := 13) (oi := { dst := Option.some 37, op := Op.move (Operand.tmp 7), type := 9, pos := "mid.go:54", after := #[{ on := 11, ground := Ground.guard }], guard := Option.some (11, Bool.false) }) (v := undef) rfl (by kernel_rfl) (by kernel_rfl) (by kernel_rfl) (fun _ _ _ h => h) (Or.inr ⟨by rfl, rfl⟩) (by assumption) ?_; (try simp only [Act.put, List.setIfInBounds_toArray, List.set_cons_zero, List.set_cons_succ]); refine wpAnyH_take (i := 14) (oi := { dst := Option.some 38, op := Op.call { callee := Callee.value (Operand.func 38), args := #[Operand.tmp 36, Operand.tmp 37], argTypes := #[9, 9] }, type := 4, pos := "mid.go:54", after := #[{ on := 12, ground := Ground.data }, { on := 13, ground := Ground.data }, { on := 11, ground := Ground.chain }, { on := 11, ground := Ground.guard }], guard := Option.some (11, Bool.false) }) (v := undef) rfl (by kernel_rfl) (by kernel_rfl) (by kernel_rfl) (fun _ _ _ h => h) (Or.inr ⟨by rfl, rfl⟩) (by assumption) ?_; (try simp only [Act.put, List.setIfInBounds_toArray, List.set_cons_zero, List.set_cons_succ]); refine wpAnyH_take (i := 15) (oi := { dst := Option.some 39, op := Op.move (Operand.tmp 38), type := 4, pos := "mid.go:54", after := #[{ on := 14, ground := Ground.data }, { on := 14, ground := Ground.chain }, { on := 11, ground := Ground.guard }], guard := Option.some (11, Bool.false) }) (v := undef) rfl (by kernel_rfl) (by kernel_rfl) (by kernel_rfl) (fun _ _ _ h => h) (Or.inr ⟨by rfl, rfl⟩) (by assumption) ?_; (try simp only [Act.put, List.setIfInBounds_toArray, List.set_cons_zero, List.set_cons_succ]); refine wpAnyH_take (i := 16) (oi := { dst := Option.some 40, op := Op.load 64 (Operand.tmp 3), type := 64, pos := "mid.go:54", after := #[{ on := 15, ground := Ground.guard }], guard := Option.some (15, Bool.true) }) (v := undef) rfl (by kernel_rfl) (by kernel_rfl) (by kernel_rfl) (fun _ _ _ h => h) (Or.inr ⟨by rfl, rfl⟩) (by assumption) ?_; (try simp only [Act.put, List.setIfInBounds_toArray, List.set_cons_zero, List.set_cons_succ]); refine wpAnyH_take (i := 17) (oi := { dst := Option.some 41, op := Op.move (Operand.tmp 0), type := 9, pos := "mid.go:54", after := #[{ on := 15, ground := Ground.guard }], guard := Option.some (15, Bool.true) }) (v := undef) rfl (by kernel_rfl) (by kernel_rfl) (by kernel_rfl) (fun _ _ _ h => h) (Or.inr ⟨by rfl, rfl⟩) (by assumption) ?_; (try simp only [Act.put, List.setIfInBounds_toArray, List.set_cons_zero, List.set_cons_succ]); refine wpAnyH_take (i := 18) (oi := { dst := Option.some 42, op := Op.move (Operand.tmp 7), type := 9, pos := "mid.go:54", after := #[{ on := 15, ground := Ground.guard }], guard := Option.some (15, Bool.true) }) (v := undef) rfl (by kernel_rfl) (by kernel_rfl) (by kernel_rfl) (fun _ _ _ h => h) (Or.inr ⟨by rfl, rfl⟩) (by assumption) ?_; (try simp only [Act.put, List.setIfInBounds_toArray, List.set_cons_zero, List.set_cons_succ]); refine wpAnyH_take (i := 19) (oi := { dst := Option.some 43, op := Op.call { callee := Callee.builtin Builtin.len, args := #[Operand.tmp 42], argTypes := #[9] }, type := 3, pos := "mid.go:54", after := #[{ on := 18, ground := Ground.data }, { on := 15, ground := Ground.guard }], guard := Option.some (15, Bool.true) }) (v := undef) rfl (by kernel_rfl) (by kernel_rfl) (by kernel_rfl) (fun _ _ _ h => h) (Or.inr ⟨by rfl, rfl⟩) (by assumption) ?_; (try simp only [Act.put, List.setIfInBounds_toArray, List.set_cons_zero, List.set_cons_succ]); refine wpAnyH_take (i := 20) (oi := { dst := Option.some 44, op := Op.slice 9 (Operand.tmp 41) (Option.some (Operand.tmp 43)) Option.none Option.none, type := 9, pos := "mid.go:54", after := #[{ on := 17, ground := Ground.data }, { on := 19, ground := Ground.data }, { on := 15, ground := Ground.guard }], guard := Option.some (15, Bool.true) }) (v := undef) rfl (by kernel_rfl) (by kernel_rfl) (by kernel_rfl) (fun _ _ _ h => h) (Or.inr ⟨by rfl, rfl⟩) (by assumption) ?_; (try simp only [Act.put, List.setIfInBounds_toArray, List.set_cons_zero, List.set_cons_succ]); refine wpAnyH_take (i := 21) (oi := { dst := Option.some 45, op := Op.call { callee := Callee.value (Operand.tmp 40), args := #[Operand.tmp 44], argTypes := #[9] }, type := 4, pos := "mid.go:54", after := #[{ on := 16, ground := Ground.data }, { on := 20, ground := Ground.data }, { on := 15, ground := Ground.chain }, { on := 15, ground := Ground.guard }], guard := Option.some (15, Bool.true) }) (v := undef) rfl (by kernel_rfl) (by kernel_rfl) (by kernel_rfl) (fun _ _ _ h => h) (Or.inr ⟨by rfl, rfl⟩) (by assumption) ?_; (try simp only [Act.put, List.setIfInBounds_toArray, List.set_cons_zero, List.set_cons_succ]); refine wpAnyH_take (i := 22) (oi := { dst := Option.some 46, op := Op.pick (Operand.tmp 39) (Operand.tmp 45) (Operand.const (Value.bool Bool.false)), type := 4, pos := "mid.go:54", after := #[{ on := 15, ground := Ground.data }, { on := 21, ground := Ground.data }, { on := 11, ground := Ground.guard }], guard := Option.some (11, Bool.false) }) (v := undef) rfl (by kernel_rfl) (by kernel_rfl) (by kernel_rfl) (fun _ _ _ h => h) (Or.inr ⟨by rfl, rfl⟩) (by assumption) ?_; (try simp only [Act.put, List.setIfInBounds_toArray, List.set_cons_zero, List.set_cons_succ]); refine wpAnyH_take (i := 23) (oi := { dst := Option.some 47, op := Op.pick (Operand.tmp 35) (Operand.const (Value.bool Bool.true)) (Operand.tmp 46), type := 4, pos := "mid.go:54", after := #[{ on := 11, ground := Ground.data }, { on := 22, ground := Ground.data }], guard := Option.none }) (v := ?tv11) rfl (by kernel_rfl) (by kernel_rfl) (by kernel_rfl) (fun _ _ _ h => h) (Or.inl ⟨by rfl, ?ty11⟩) (by assumption) ?tr11; (case ty11 => (intro w hSw; (try dsimp only at hSw); go_simp; try (with_reducible rfl))); (try simp only [Act.put, List.setIfInBounds_toArray, List.set_cons_zero, List.set_cons_succ])
              refine wpAnyH_done (by kernel_rfl) ?_ _
              have HF : Hid (TwPost (cws g n) M S K (wd over) w (.returned (.bool true)) w6) := ⟨true, S6, K6, rfl, HG.out.trans (drewN_grown (d := 1) q1), q2, q3, fun o ho => q4 o (c3 o (List.mem_cons_of_mem _ ho)), by have := HLT.out; omega, fun _ => htw (q6 rfl), fun h => (by cases h)⟩
              clear q1 q2 q3 q4 q5 q6 q7 hp1
              go_wp2
              go_ret
              exact HF.out
            | false =>
              have hp2 := fun W => sole_has (s := over) (p := x) (b := false) ⟨fun h => (by cases h), fun h => absurd (q7 rfl).1 (hboth h q3)⟩ W
              refine hK.out _ _ hct6 (fun hHeld => ?_)
              clear hK K0
              (try simp only [Act.put, List.setIfInBounds_toArray, List.set_cons_zero, List.set_cons_succ])
              refine wpAnyH_take (i := 10) (oi := { dst := Option.some 34, op := Op.pick (Operand.tmp 27) (Operand.tmp 33) (Operand.const (Value.bool Bool.false)), type := 4, pos := "mid.go:54", after := #[{ on := 3, ground := Ground.data }, { on := 9, ground := Ground.data }], guard := Option.none }) (v := ?tv12) rfl (by kernel_rfl) (by kernel_rfl) (by kernel_rfl) (fun _ _ _ h => h) (Or.inl ⟨by rfl, ?ty12⟩) (by assumption) ?tr12; (case ty12 => (intro w hSw; (try dsimp only at hSw); go_simp; try (with_reducible rfl))); (try simp only [Act.put, List.setIfInBounds_toArray, List.set_cons_zero, List.set_cons_succ]); refine wpAnyH_take (i := 11) (oi := { dst := Option.some 35, op := Op.move (Operand.tmp 34), type := 4, pos := "mid.go:54", after := #[{ on := 10, ground := Ground.data }, { on := 9, ground := Ground.chain }], guard := Option.none }) (v := ?tv13) rfl (by kernel_rfl) (by kernel_rfl) (by kernel_rfl) (fun _ _ _ h => h) (Or.inl ⟨by rfl, ?ty13⟩) (by assumption) ?tr13; (case ty13 => (intro w hSw; (try dsimp only at hSw); go_simp; try (with_reducible rfl))); (try simp only [Act.put, List.setIfInBounds_toArray, List.set_cons_zero, List.set_cons_succ]); refine wpAnyH_take (i := 12) (oi := { dst := Option.some 36, op := Op.move (Operand.tmp 0), type := 9, pos := "mid.go:54", after := #[{ on := 11, ground := Ground.guard }], guard := Option.some (11, Bool.false) }) (v := ?tv14) rfl (by kernel_rfl) (by kernel_rfl) (by kernel_rfl) (fun _ _ _ h => h) (Or.inl ⟨by rfl, ?ty14⟩) (by assumption) ?tr14; (case ty14 => (intro w hSw; (try dsimp only at hSw); go_simp; try (with_reducible rfl))); (try simp only [Act.put, List.setIfInBounds_toArray, List.set_cons_zero, List.set_cons_succ]); refine wpAnyH_take (i := 13) (oi := { dst := Option.some 37, op := Op.move (Operand.tmp 7), type := 9, pos := "mid.go:54", after := #[{ on := 11, ground := Ground.guard }], guard := Option.some (11, Bool.false) }) (v := ?tv15) rfl (by kernel_rfl) (by kernel_rfl) (by kernel_rfl) (fun _ _ _ h => h) (Or.inl ⟨by rfl, ?ty15⟩) (by assumption) ?tr15; (case ty15 => (intro w hSw; (try dsimp only at hSw); go_simp; try (with_reducible rfl))); (try simp only [Act.put, List.setIfInBounds_toArray, List.set_cons_zero, List.set_cons_succ])
              refine wpAnyH_ready (rs := [14]) (by kernel_rfl) (by simp) ?_
              refine AllReadyH.cons (o := { dst := Option.some 38, op := Op.call { callee := Callee.value (Operand.func 38), args := #[Operand.tmp 36, Operand.tmp 37], argTypes := #[9, 9] }, type := 4, pos := "mid.go:54", after := #[{ on := 12, ground := Ground.data }, { on := 13, ground := Ground.data }, { on := 11, ground := Ground.chain }, { on := 11, ground := Ground.guard }], guard := Option.some (11, Bool.false) }) rfl (fun K0 hK => ?_) AllReadyH.nil
              go_simp
              with_reducible refine (hp2 _).mono ?_
              rintro e w7 ⟨rfl, rfl⟩
              refine hK.out _ _ hct6 (fun hHeld => ?_)
              clear hK K0
              (try simp only [Act.put, List.setIfInBounds_toArray, List.set_cons_zero, List.set_cons_succ])
              refine wpAnyH_take (i := 15) (oi := { dst := Option.some 39, op := Op.move (Operand.tmp 38), type := 4, pos := "mid.go:54", after := #[{ on := 14, ground := Ground.data }, { on := 14, ground := Ground.chain }, { on := 11, ground := Ground.guard }], guard := Option.some (11, Bool.false) }) (v := ?tv16) rfl (by kernel_rfl) (by kernel_rfl) (by kernel_rfl) (fun _ _ _ h => h) (Or.inl ⟨by rfl, ?ty16⟩) (by assumption) ?tr16; (case ty16 => (intro w hSw; (try dsimp only at hSw); go_simp; try (with_reducible rfl))); (try simp only [Act.put, List.setIfInBounds_toArray, List.set_cons_zero, List.set_cons_succ]); refine wpAnyH_take (i := 16) (oi := { dst := Option.some 40, op := Op.load 64 (Operand.tmp 3), type := 64, pos := "mid.go:54", after := #[{ on := 15, ground := Ground.guard }], guard := Option.some (15, Bool.true) }) (v := undef) rfl (by kernel_rfl) (by kernel_rfl) (by kernel_rfl) (fun _ _ _ h => h) (Or.inr ⟨by rfl, rfl⟩) (by assumption) ?_; (try simp only [Act.put, List.setIfInBounds_toArray, List.set_cons_zero, List.set_cons_succ]); refine wpAnyH_take (i := 17) (oi := { dst := Option.some 41, op := Op.move (Operand.tmp 0), type := 9, pos := "mid.go:54", after := #[{ on := 15, ground := Ground.guard }], guard := Option.some (15, Bool.true) }) (v := undef) rfl (by kernel_rfl) (by kernel_rfl) (by kernel_rfl) (fun _ _ _ h => h) (Or.inr ⟨by rfl, rfl⟩) (by assumption) ?_; (try simp only [Act.put, List.setIfInBounds_toArray, List.set_cons_zero, List.set_cons_succ]); refine wpAnyH_take (i := 18) (oi := { dst := Option.some 42, op := Op.move (Operand.tmp 7), type := 9, pos := "mid.go:54", after := #[{ on := 15, ground := Ground.guard }], guard := Option.some (15, Bool.true) }) (v := undef) rfl (by kernel_rfl) (by kernel_rfl) (by kernel_rfl) (fun _ _ _ h => h) (Or.inr ⟨by rfl, rfl⟩) (by assumption) ?_; (try simp only [Act.put, List.setIfInBounds_toArray, List.set_cons_zero, List.set_cons_succ]); refine wpAnyH_take (i := 19) (oi := { dst := Option.some 43, op := Op.call { callee := Callee.builtin Builtin.len, args := #[Operand.tmp 42], argTypes := #[9] }, type := 3, pos := "mid.go:54", after := #[{ on := 18, ground := Ground.data }, { on := 15, ground := Ground.guard }], guard := Option.some (15, Bool.true) }) (v := undef) rfl (by kernel_rfl) (by kernel_rfl) (by kernel_rfl) (fun _ _ _ h => h) (Or.inr ⟨by rfl, rfl⟩) (by assumption) ?_; (try simp only [Act.put, List.setIfInBounds_toArray, List.set_cons_zero, List.set_cons_succ]); refine wpAnyH_take (i := 20) (oi := { dst := Option.some 44, op := Op.slice 9 (Operand.tmp 41) (Option.some (Operand.tmp 43)) Option.none Option.none, type := 9, pos := "mid.go:54", after := #[{ on := 17, ground := Ground.data }, { on := 19, ground := Ground.data }, { on := 15, ground := Ground.guard }], guard := Option.some (15, Bool.true) }) (v := undef) rfl (by kernel_rfl) (by kernel_rfl) (by kernel_rfl) (fun _ _ _ h => h) (Or.inr ⟨by rfl, rfl⟩) (by assumption) ?_; (try simp only [Act.put, List.setIfInBounds_toArray, List.set_cons_zero, List.set_cons_succ]); refine wpAnyH_take (i := 21) (oi := { dst := Option.some 45, op := Op.call { callee := Callee.value (Operand.tmp 40), args := #[Operand.tmp 44], argTypes := #[9] }, type := 4, pos := "mid.go:54", after := #[{ on := 16, ground := Ground.data }, { on := 20, ground := Ground.data }, { on := 15, ground := Ground.chain }, { on := 15, ground := Ground.guard }], guard := Option.some (15, Bool.true) }) (v := undef) rfl (by kernel_rfl) (by kernel_rfl) (by kernel_rfl) (fun _ _ _ h => h) (Or.inr ⟨by rfl, rfl⟩) (by assumption) ?_; (try simp only [Act.put, List.setIfInBounds_toArray, List.set_cons_zero, List.set_cons_succ]); refine wpAnyH_take (i := 22) (oi := { dst := Option.some 46, op := Op.pick (Operand.tmp 39) (Operand.tmp 45) (Operand.const (Value.bool Bool.false)), type := 4, pos := "mid.go:54", after := #[{ on := 15, ground := Ground.data }, { on := 21, ground := Ground.data }, { on := 11, ground := Ground.guard }], guard := Option.some (11, Bool.false) }) (v := ?tv17) rfl (by kernel_rfl) (by kernel_rfl) (by kernel_rfl) (fun _ _ _ h => h) (Or.inl ⟨by rfl, ?ty17⟩) (by assumption) ?tr17; (case ty17 => (intro w hSw; (try dsimp only at hSw); go_simp; try (with_reducible rfl))); (try simp only [Act.put, List.setIfInBounds_toArray, List.set_cons_zero, List.set_cons_succ]); refine wpAnyH_take (i := 23) (oi := { dst := Option.some 47, op := Op.pick (Operand.tmp 35) (Operand.const (Value.bool Bool.true)) (Operand.tmp 46), type := 4, pos := "mid.go:54", after := #[{ on := 11, ground := Ground.data }, { on := 22, ground := Ground.data }], guard := Option.none }) (v := ?tv18) rfl (by kernel_rfl) (by kernel_rfl) (by kernel_rfl) (fun _ _ _ h => h) (Or.inl ⟨by rfl, ?ty18⟩) (by assumption) ?tr18; (case ty18 => (intro w hSw; (try dsimp only at hSw); go_simp; try (with_reducible rfl))); (try simp only [Act.put, List.setIfInBounds_toArray, List.set_cons_zero, List.set_cons_succ])
              refine wpAnyH_done (by kernel_rfl) ?_ _
              have HG6 := hid (HG.out.trans (drewN_grown (d := 1) q1))
              have HT6 := hid (twAt_next c3 c4 c5 c6 q2 q3 q4 q5 (q7 rfl) (by rw [HGX.out]; exact hru))
              clear q1 q2 q3 q4 q5 q6 q7 hp1 hp2
              go_wp2
              go_roundw
              case measure => simp [intOf]; omega
              case rel => exact ⟨k + 1, by omega, by go_num, HG6, HT6⟩
          · by_cases h2 : wd (g k) <+: wd over
            · obtain ⟨S2, K2, c1, c2, c3, c4, c5, c6⟩ := HT.out
              have hle : (g k).size ≤ over.size := by have := h2.length_le; rw [wd_len, wd_len] at this; exact this
              have hle' : ((g k).size : Int) ≤ over.size := by omega
              have hrd : wd (over.extract (g k).size over.size) = (wd over).drop (wd (g k)).length := by rw [wd_drop, wd_len]
              have hdec := rest_of h2
              have hrecw := HRec.out S2 K2 wr.drew (over.extract (g k).size over.size) HWd.out c1 c2 (HE.out.step ⟨_, hmem, .inr (by rw [hrd]; exact hdec)⟩) (by have := left_mono (W := cws g n) c3; have := HLT.out; omega) (by have := HLT.out; omega)
              have htw : Cm.Tw (cws g n) (wd (over.extract (g k).size over.size)) → Cm.Tw (cws g n) (wd over) := fun h => Cm.Tw.of_step ⟨_, hmem, .inr (by rw [hrd]; exact hdec)⟩ h
              have hru : ∀ o', (wd (g k) = wd over ++ o' ∨ wd over = wd (g k) ++ o') → o' = wd (over.extract (g k).size over.size) := by
                rw [hrd]
                rintro o' (ho | ho)
                · exact absurd ⟨o', ho.symm⟩ h1
                · rw [ho, List.drop_left]
              have hp1 := fun W => sole_has (s := g k) (p := over) (b := false) ⟨fun h => (by cases h), fun h => absurd h h1⟩ W
              have hp2 := fun W => sole_has (s := over) (p := g k) (b := true) ⟨fun _ => h2, fun _ => rfl⟩ W
              clear hdec hrd h1 h2 HT c1 c2
              generalize hgx : g k = x at hcell hxs hle hle' hrecw htw hru hp1 hp2 hmem
              have HGX := hid hgx
              clear hgx
              go_wp2
              refine wp_region_held_drew (S := fun W => W.cell? ⟨Bt, 0, none⟩ = some (.func (.func 39) #[] #[.pointer (some ⟨Bm, 0, none⟩), .pointer (some ⟨Bl, 0, none⟩), .pointer (some ⟨Bt, 0, none⟩)])) (by kernel_rfl) hct (fun hHeld => ?_)
              refine wpAnyH_take (i := 0) (oi := { dst := Option.some 24, op := Op.move (Operand.tmp 7), type := 9, pos := "mid.go:54", after := #[], guard := Option.none }) (v := ?tv19) rfl (by kernel_rfl) (by kernel_rfl) (by kernel_rfl) (fun _ _ _ h => h) (Or.inl ⟨by rfl, ?ty19⟩) (by assumption) ?tr19; (case ty19 => (intro w hSw; (try dsimp only at hSw); go_simp; try (with_reducible rfl))); (try simp only [Act.put, List.setIfInBounds_toArray, List.set_cons_zero, List.set_cons_succ]); refine wpAnyH_take (i := 1) (oi := { dst := Option.some 25, op := Op.move (Operand.tmp 0), type := 9, pos := "mid.go:54", after := #[], guard := Option.none }) (v := ?tv20) rfl (by kernel_rfl) (by kernel_rfl) (by kernel_rfl) (fun _ _ _ h => h) (Or.inl ⟨by rfl, ?ty20⟩) (by assumption) ?tr20; (case ty20 => (intro w hSw; (try dsimp only at hSw); go_simp; try (with_reducible rfl))); (try simp only [Act.put, List.setIfInBounds_toArray, List.set_cons_zero, List.set_cons_succ])
              refine wpAnyH_ready (rs := [2]) (by kernel_rfl) (by simp) ?_
              refine AllReadyH.cons (o := { dst := Option.some 26, op := Op.call { callee := Callee.value (Operand.func 38), args := #[Operand.tmp 24, Operand.tmp 25], argTypes := #[9, 9] }, type := 4, pos := "mid.go:54", after := #[{ on := 0, ground := Ground.data }, { on := 1, ground := Ground.data }], guard := Option.none }) rfl (fun K0 hK => ?_) AllReadyH.nil
              go_simp
              with_reducible refine (hp1 _).mono ?_
              rintro e w5 ⟨rfl, rfl⟩
              refine hK.out _ _ hct (fun hHeld => ?_)
              clear hK K0
              (try simp only [Act.put, List.setIfInBounds_toArray, List.set_cons_zero, List.set_cons_succ])
              refine wpAnyH_take (i := 3) (oi := { dst := Option.some 27, op := Op.move (Operand.tmp 26), type := 4, pos := "mid.go:54", after := #[{ on := 2, ground := Ground.data }, { on := 2, ground := Ground.chain }], guard := Option.none }) (v := ?tv21) rfl (by kernel_rfl) (by kernel_rfl) (by kernel_rfl) (fun _ _ _ h => h) (Or.inl ⟨by rfl, ?ty21⟩) (by assumption) ?tr21; (case ty21 => (intro w hSw; (try dsimp only at hSw); go_simp; try (with_reducible rfl))); (try simp only [Act.put, List.setIfInBounds_toArray, List.set_cons_zero, List.set_cons_succ]); refine wpAnyH_take (i := 4) (oi := { dst := Option.some 28, op := Op.load 64 (Operand.tmp 3), type := 64, pos := "mid.go:54", after := #[{ on := 3, ground := Ground.guard }], guard := Option.some (3, Bool.true) }) (v := undef) rfl (by kernel_rfl) (by kernel_rfl) (by kernel_rfl) (fun _ _ _ h => h) (Or.inr ⟨by rfl, rfl⟩) (by assumption) ?_; (try simp only [Act.put, List.setIfInBounds_toArray, List.set_cons_zero, List.set_cons_succ]); refine wpAnyH_take (i := 5) (oi := { dst := Option.some 29, op := Op.move (Operand.tmp 7), type := 9, pos := "mid.go:54", after := #[{ on := 3, ground := Ground.guard }], guard := Option.some (3, Bool.true) }) (v := undef) rfl (by kernel_rfl) (by kernel_rfl) (by kernel_rfl) (fun _ _ _ h => h) (Or.inr ⟨by rfl, rfl⟩) (by assumption) ?_; (try simp only [Act.put, List.setIfInBounds_toArray, List.set_cons_zero, List.set_cons_succ]); refine wpAnyH_take (i := 6) (oi := { dst := Option.some 30, op := Op.move (Operand.tmp 0), type := 9, pos := "mid.go:54", after := #[{ on := 3, ground := Ground.guard }], guard := Option.some (3, Bool.true) }) (v := undef) rfl (by kernel_rfl) (by kernel_rfl) (by kernel_rfl) (fun _ _ _ h => h) (Or.inr ⟨by rfl, rfl⟩) (by assumption) ?_; (try simp only [Act.put, List.setIfInBounds_toArray, List.set_cons_zero, List.set_cons_succ]); refine wpAnyH_take (i := 7) (oi := { dst := Option.some 31, op := Op.call { callee := Callee.builtin Builtin.len, args := #[Operand.tmp 30], argTypes := #[9] }, type := 3, pos := "mid.go:54", after := #[{ on := 6, ground := Ground.data }, { on := 3, ground := Ground.guard }], guard := Option.some (3, Bool.true) }) (v := undef) rfl (by kernel_rfl) (by kernel_rfl) (by kernel_rfl) (fun _ _ _ h => h) (Or.inr ⟨by rfl, rfl⟩) (by assumption) ?_; (try simp only [Act.put, List.setIfInBounds_toArray, List.set_cons_zero, List.set_cons_succ]); refine wpAnyH_take (i := 8) (oi := { dst := Option.some 32, op := Op.slice 9 (Operand.tmp 29) (Option.some (Operand.tmp 31)) Option.none Option.none, type := 9, pos := "mid.go:54", after := #[{ on := 5, ground := Ground.data }, { on := 7, ground := Ground.data }, { on := 3, ground := Ground.guard }], guard := Option.some (3, Bool.true) }) (v := undef) rfl (by kernel_rfl) (by kernel_rfl) (by kernel_rfl) (fun _ _ _ h => h) (Or.inr ⟨by rfl, rfl⟩) (by assumption) ?_; (try simp only [Act.put, List.setIfInBounds_toArray, List.set_cons_zero, List.set_cons_succ]); refine wpAnyH_take (i := 9) (oi := { dst := Option.some 33, op := Op.call { callee := Callee.value (Operand.tmp 28), args := #[Operand.tmp 32], argTypes := #[9] }, type := 4, pos := "mid.go:54", after := #[{ on := 4, ground := Ground.data }, { on := 8, ground := Ground.data }, { on := 3, ground := Ground.chain }, { on := 3, ground := Ground.guard }], guard := Option.some (3, Bool.true) }) (v := undef) rfl (by kernel_rfl) (by kernel_rfl) (by kernel_rfl) (fun _ _ _ h => h) (Or.inr ⟨by rfl, rfl⟩) (by assumption) ?_; (try simp only [Act.put, List.setIfInBounds_toArray, List.set_cons_zero, List.set_cons_succ]); refine wpAnyH_take (i := 10) (oi := { dst := Option.some 34, op := Op.pick (Operand.tmp 27) (Operand.tmp 33) (Operand.const (Value.bool Bool.false)), type := 4, pos := "mid.go:54", after := #[{ on := 3, ground := Ground.data }, { on := 9, ground := Ground.data }], guard := Option.none }) (v := ?tv22) rfl (by kernel_rfl) (by kernel_rfl) (by kernel_rfl) (fun _ _ _ h => h) (Or.inl ⟨by rfl, ?ty22⟩) (by assumption) ?tr22; (case ty22 => (intro w hSw; (try dsimp only at hSw); go_simp; try (with_reducible rfl))); (try simp only [Act.put, List.setIfInBounds_toArray, List.set_cons_zero, List.set_cons_succ]); refine wpAnyH_take (i := 11) (oi := { dst := Option.some 35, op := Op.move (Operand.tmp 34), type := 4, pos := "mid.go:54", after := #[{ on := 10, ground := Ground.data }, { on := 9, ground := Ground.chain }], guard := Option.none }) (v := ?tv23) rfl (by kernel_rfl) (by kernel_rfl) (by kernel_rfl) (fun _ _ _ h => h) (Or.inl ⟨by rfl, ?ty23⟩) (by assumption) ?tr23; (case ty23 => (intro w hSw; (try dsimp only at hSw); go_simp; try (with_reducible rfl))); (try simp only [Act.put, List.setIfInBounds_toArray, List.set_cons_zero, List.set_cons_succ]); refine wpAnyH_take (i := 12) (oi := { dst := Option.some 36, op := Op.move (Operand.tmp 0), type := 9, pos := "mid.go:54", after := #[{ on := 11, ground := Ground.guard }], guard := Option.some (11, Bool.false) }) (v := ?tv24) rfl (by kernel_rfl) (by kernel_rfl) (by kernel_rfl) (fun _ _ _ h => h) (Or.inl ⟨by rfl, ?ty24⟩) (by assumption) ?tr24; (case ty24 => (intro w hSw; (try dsimp only at hSw); go_simp; try (with_reducible rfl))); (try simp only [Act.put, List.setIfInBounds_toArray, List.set_cons_zero, List.set_cons_succ]); refine wpAnyH_take (i := 13) (oi := { dst := Option.some 37, op := Op.move (Operand.tmp 7), type := 9, pos := "mid.go:54", after := #[{ on := 11, ground := Ground.guard }], guard := Option.some (11, Bool.false) }) (v := ?tv25) rfl (by kernel_rfl) (by kernel_rfl) (by kernel_rfl) (fun _ _ _ h => h) (Or.inl ⟨by rfl, ?ty25⟩) (by assumption) ?tr25; (case ty25 => (intro w hSw; (try dsimp only at hSw); go_simp; try (with_reducible rfl))); (try simp only [Act.put, List.setIfInBounds_toArray, List.set_cons_zero, List.set_cons_succ])
              refine wpAnyH_ready (rs := [14]) (by kernel_rfl) (by simp) ?_
              refine AllReadyH.cons (o := { dst := Option.some 38, op := Op.call { callee := Callee.value (Operand.func 38), args := #[Operand.tmp 36, Operand.tmp 37], argTypes := #[9, 9] }, type := 4, pos := "mid.go:54", after := #[{ on := 12, ground := Ground.data }, { on := 13, ground := Ground.data }, { on := 11, ground := Ground.chain }, { on := 11, ground := Ground.guard }], guard := Option.some (11, Bool.false) }) rfl (fun K0 hK => ?_) AllReadyH.nil
              go_simp
              with_reducible refine (hp2 _).mono ?_
              rintro e w5 ⟨rfl, rfl⟩
              refine hK.out _ _ hct (fun hHeld => ?_)
              clear hK K0
              (try simp only [Act.put, List.setIfInBounds_toArray, List.set_cons_zero, List.set_cons_succ])
              refine wpAnyH_take (i := 15) (oi := { dst := Option.some 39, op := Op.move (Operand.tmp 38), type := 4, pos := "mid.go:54", after := #[{ on := 14, ground := Ground.data }, { on := 14, ground := Ground.chain }, { on := 11, ground := Ground.guard }], guard := Option.some (11, Bool.false) }) (v := ?tv26) rfl (by kernel_rfl) (by kernel_rfl) (by kernel_rfl) (fun _ _ _ h => h) (Or.inl ⟨by rfl, ?ty26⟩) (by assumption) ?tr26; (case ty26 => (intro w hSw; (try dsimp only at hSw); go_simp; try (with_reducible rfl))); (try simp only [Act.put, List.setIfInBounds_toArray, List.set_cons_zero, List.set_cons_succ]); refine wpAnyH_take (i := 16) (oi := { dst := Option.some 40, op := Op.load 64 (Operand.tmp 3), type := 64, pos := "mid.go:54", after := #[{ on := 15, ground := Ground.guard }], guard := Option.some (15, Bool.true) }) (v := ?tv27) rfl (by kernel_rfl) (by kernel_rfl) (by kernel_rfl) (fun _ _ _ h => h) (Or.inl ⟨by rfl, ?ty27⟩) (by assumption) ?tr27; (case ty27 => (intro w hSw; (try dsimp only at hSw); go_simp; try (with_reducible rfl))); (try simp only [Act.put, List.setIfInBounds_toArray, List.set_cons_zero, List.set_cons_succ]); refine wpAnyH_take (i := 17) (oi := { dst := Option.some 41, op := Op.move (Operand.tmp 0), type := 9, pos := "mid.go:54", after := #[{ on := 15, ground := Ground.guard }], guard := Option.some (15, Bool.true) }) (v := ?tv28) rfl (by kernel_rfl) (by kernel_rfl) (by kernel_rfl) (fun _ _ _ h => h) (Or.inl ⟨by rfl, ?ty28⟩) (by assumption) ?tr28; (case ty28 => (intro w hSw; (try dsimp only at hSw); go_simp; try (with_reducible rfl))); (try simp only [Act.put, List.setIfInBounds_toArray, List.set_cons_zero, List.set_cons_succ]); refine wpAnyH_take (i := 18) (oi := { dst := Option.some 42, op := Op.move (Operand.tmp 7), type := 9, pos := "mid.go:54", after := #[{ on := 15, ground := Ground.guard }], guard := Option.some (15, Bool.true) }) (v := ?tv29) rfl (by kernel_rfl) (by kernel_rfl) (by kernel_rfl) (fun _ _ _ h => h) (Or.inl ⟨by rfl, ?ty29⟩) (by assumption) ?tr29; (case ty29 => (intro w hSw; (try dsimp only at hSw); go_simp; try (with_reducible rfl))); (try simp only [Act.put, List.setIfInBounds_toArray, List.set_cons_zero, List.set_cons_succ]); refine wpAnyH_take (i := 19) (oi := { dst := Option.some 43, op := Op.call { callee := Callee.builtin Builtin.len, args := #[Operand.tmp 42], argTypes := #[9] }, type := 3, pos := "mid.go:54", after := #[{ on := 18, ground := Ground.data }, { on := 15, ground := Ground.guard }], guard := Option.some (15, Bool.true) }) (v := ?tv30) rfl (by kernel_rfl) (by kernel_rfl) (by kernel_rfl) (fun _ _ _ h => h) (Or.inl ⟨by rfl, ?ty30⟩) (by assumption) ?tr30; (case ty30 => (intro w hSw; (try dsimp only at hSw); go_simp; try (with_reducible rfl))); (try simp only [Act.put, List.setIfInBounds_toArray, List.set_cons_zero, List.set_cons_succ]); refine wpAnyH_take (i := 20) (oi := { dst := Option.some 44, op := Op.slice 9 (Operand.tmp 41) (Option.some (Operand.tmp 43)) Option.none Option.none, type := 9, pos := "mid.go:54", after := #[{ on := 17, ground := Ground.data }, { on := 19, ground := Ground.data }, { on := 15, ground := Ground.guard }], guard := Option.some (15, Bool.true) }) (v := ?tv31) rfl (by kernel_rfl) (by kernel_rfl) (by kernel_rfl) (fun _ _ _ h => h) (Or.inl ⟨by rfl, ?ty31⟩) (by assumption) ?tr31; (case ty31 => (intro w hSw; (try dsimp only at hSw); go_simp; try (with_reducible rfl))); (try simp only [Act.put, List.setIfInBounds_toArray, List.set_cons_zero, List.set_cons_succ])
              refine wpAnyH_ready (rs := [21]) (by kernel_rfl) (by simp) ?_
              refine AllReadyH.cons (o := { dst := Option.some 45, op := Op.call { callee := Callee.value (Operand.tmp 40), args := #[Operand.tmp 44], argTypes := #[9] }, type := 4, pos := "mid.go:54", after := #[{ on := 16, ground := Ground.data }, { on := 20, ground := Ground.data }, { on := 15, ground := Ground.chain }, { on := 15, ground := Ground.guard }], guard := Option.some (15, Bool.true) }) rfl (fun K0 hK => ?_) AllReadyH.nil
              go_simp
              with_reducible refine hrecw.mono ?_
              rintro e w6 ⟨b6, S6, K6, rfl, q1, q2, q3, q4, q5, q6, q7⟩
              have hct6 := q1.cell (a := ⟨Bt, 0, none⟩) hct (by simpa using hnt)
              cases b6 with
              | true =>
                refine hK.out _ _ hct6 (fun hHeld => ?_)
                clear hK K0
                (try simp only [Act.put, List.setIfInBounds_toArray, List.set_cons_zero, List.set_cons_succ])
                refine wpAnyH_take (i := 22) (oi := { dst := Option.some 46, op := Op.pick (Operand.tmp 39) (Operand.tmp 45) (Operand.const (Value.bool Bool.false)), type := 4, pos := "mid.go:54", after := #[{ on := 15, ground := Ground.data }, { on := 21, ground := Ground.data }, { on := 11, ground := Ground.guard }], guard := Option.some (11, Bool.false) }) (v := ?tv32) rfl (by kernel_rfl) (by kernel_rfl) (by kernel_rfl) (fun _ _ _ h => h) (Or.inl ⟨by rfl, ?ty32⟩) (by assumption) ?tr32; (case ty32 => (intro w hSw; (try dsimp only at hSw); go_simp; try (with_reducible rfl))); (try simp only [Act.put, List.setIfInBounds_toArray, List.set_cons_zero, List.set_cons_succ]); refine wpAnyH_take (i := 23) (oi := { dst := Option.some 47, op := Op.pick (Operand.tmp 35) (Operand.const (Value.bool Bool.true)) (Operand.tmp 46), type := 4, pos := "mid.go:54", after := #[{ on := 11, ground := Ground.data }, { on := 22, ground := Ground.data }], guard := Option.none }) (v := ?tv33) rfl (by kernel_rfl) (by kernel_rfl) (by kernel_rfl) (fun _ _ _ h => h) (Or.inl ⟨by rfl, ?ty33⟩) (by assumption) ?tr33; (case ty33 => (intro w hSw; (try dsimp only at hSw); go_simp; try (with_reducible rfl))); (try simp only [Act.put, List.setIfInBounds_toArray, List.set_cons_zero, List.set_cons_succ])
                refine wpAnyH_done (by kernel_rfl) ?_ _
                have HF : Hid (TwPost (cws g n) M S K (wd over) w (.returned (.bool true)) w6) := ⟨true, S6, K6, rfl, HG.out.trans (drewN_grown (d := 1) q1), q2, q3, fun o ho => q4 o (c3 o (List.mem_cons_of_mem _ ho)), by have := HLT.out; omega, fun _ => htw (q6 rfl), fun h => (by cases h)⟩
                clear q1 q2 q3 q4 q5 q6 q7 hp1 hp2
                go_wp2
                go_ret
                exact HF.out
              | false =>
                refine hK.out _ _ hct6 (fun hHeld => ?_)
                clear hK K0
                (try simp only [Act.put, List.setIfInBounds_toArray, List.set_cons_zero, List.set_cons_succ])
                refine wpAnyH_take (i := 22) (oi := { dst := Option.some 46, op := Op.pick (Operand.tmp 39) (Operand.tmp 45) (Operand.const (Value.bool Bool.false)), type := 4, pos := "mid.go:54", after := #[{ on := 15, ground := Ground.data }, { on := 21, ground := Ground.data }, { on := 11, ground := Ground.guard }], guard := Option.some (11, Bool.false) }) (v := ?tv34) rfl (by kernel_rfl) (by kernel_rfl) (by kernel_rfl) (fun _ _ _ h => h) (Or.inl ⟨by rfl, ?ty34⟩) (by assumption) ?tr34; (case ty34 => (intro w hSw; (try dsimp only at hSw); go_simp; try (with_reducible rfl))); (try simp only [Act.put, List.setIfInBounds_toArray, List.set_cons_zero, List.set_cons_succ]); refine wpAnyH_take (i := 23) (oi := { dst := Option.some 47, op := Op.pick (Operand.tmp 35) (Operand.const (Value.bool Bool.true)) (Operand.tmp 46), type := 4, pos := "mid.go:54", after := #[{ on := 11, ground := Ground.data }, { on := 22, ground := Ground.data }], guard := Option.none }) (v := ?tv35) rfl (by kernel_rfl) (by kernel_rfl) (by kernel_rfl) (fun _ _ _ h => h) (Or.inl ⟨by rfl, ?ty35⟩) (by assumption) ?tr35; (case ty35 => (intro w hSw; (try dsimp only at hSw); go_simp; try (with_reducible rfl))); (try simp only [Act.put, List.setIfInBounds_toArray, List.set_cons_zero, List.set_cons_succ])
                refine wpAnyH_done (by kernel_rfl) ?_ _
                have HG6 := hid (HG.out.trans (drewN_grown (d := 1) q1))
                have HT6 := hid (twAt_next c3 c4 c5 c6 q2 q3 q4 q5 (q7 rfl) (by rw [HGX.out]; exact hru))
                clear q1 q2 q3 q4 q5 q6 q7 hp1 hp2
                go_wp2
                go_roundw
                case measure => simp [intOf]; omega
                case rel => exact ⟨k + 1, by omega, by go_num, HG6, HT6⟩
            · have HG6 := hid (grown_drewN HG.out 1)
              have HT6 := hid (HT.out.none_ (grown_drewN (World.grownBy.refl wr none) 1) (by simp) h1 h2)
              have hp1 := fun W => sole_has (s := g k) (p := over) (b := false) ⟨fun h => (by cases h), fun h => absurd h h1⟩ W
              have hp2 := fun W => sole_has (s := over) (p := g k) (b := false) ⟨fun h => (by cases h), fun h => absurd h h2⟩ W
              clear h1 h2 HT
              generalize g k = x at hcell hxs hp1 hp2 hmem
              go_wp2
              refine wp_region_held_drew (S := fun W => W.cell? ⟨Bt, 0, none⟩ = some (.func (.func 39) #[] #[.pointer (some ⟨Bm, 0, none⟩), .pointer (some ⟨Bl, 0, none⟩), .pointer (some ⟨Bt, 0, none⟩)])) (by kernel_rfl) hct (fun hHeld => ?_)
              refine wpAnyH_take (i := 0) (oi := { dst := Option.some 24, op := Op.move (Operand.tmp 7), type := 9, pos := "mid.go:54", after := #[], guard := Option.none }) (v := ?tv36) rfl (by kernel_rfl) (by kernel_rfl) (by kernel_rfl) (fun _ _ _ h => h) (Or.inl ⟨by rfl, ?ty36⟩) (by assumption) ?tr36; (case ty36 => (intro w hSw; (try dsimp only at hSw); go_simp; try (with_reducible rfl))); (try simp only [Act.put, List.setIfInBounds_toArray, List.set_cons_zero, List.set_cons_succ]); refine wpAnyH_take (i := 1) (oi := { dst := Option.some 25, op := Op.move (Operand.tmp 0), type := 9, pos := "mid.go:54", after := #[], guard := Option.none }) (v := ?tv37) rfl (by kernel_rfl) (by kernel_rfl) (by kernel_rfl) (fun _ _ _ h => h) (Or.inl ⟨by rfl, ?ty37⟩) (by assumption) ?tr37; (case ty37 => (intro w hSw; (try dsimp only at hSw); go_simp; try (with_reducible rfl))); (try simp only [Act.put, List.setIfInBounds_toArray, List.set_cons_zero, List.set_cons_succ])
              refine wpAnyH_ready (rs := [2]) (by kernel_rfl) (by simp) ?_
              refine AllReadyH.cons (o := { dst := Option.some 26, op := Op.call { callee := Callee.value (Operand.func 38), args := #[Operand.tmp 24, Operand.tmp 25], argTypes := #[9, 9] }, type := 4, pos := "mid.go:54", after := #[{ on := 0, ground := Ground.data }, { on := 1, ground := Ground.data }], guard := Option.none }) rfl (fun K0 hK => ?_) AllReadyH.nil
              go_simp
              with_reducible refine (hp1 _).mono ?_
              rintro e w5 ⟨rfl, rfl⟩
              refine hK.out _ _ hct (fun hHeld => ?_)
              clear hK K0
              (try simp only [Act.put, List.setIfInBounds_toArray, List.set_cons_zero, List.set_cons_succ])
              refine wpAnyH_take (i := 3) (oi := { dst := Option.some 27, op := Op.move (Operand.tmp 26), type := 4, pos := "mid.go:54", after := #[{ on := 2, ground := Ground.data }, { on := 2, ground := Ground.chain }], guard := Option.none }) (v := ?tv38) rfl (by kernel_rfl) (by kernel_rfl) (by kernel_rfl) (fun _ _ _ h => h) (Or.inl ⟨by rfl, ?ty38⟩) (by assumption) ?tr38; (case ty38 => (intro w hSw; (try dsimp only at hSw); go_simp; try (with_reducible rfl))); (try simp only [Act.put, List.setIfInBounds_toArray, List.set_cons_zero, List.set_cons_succ]); refine wpAnyH_take (i := 4) (oi := { dst := Option.some 28, op := Op.load 64 (Operand.tmp 3), type := 64, pos := "mid.go:54", after := #[{ on := 3, ground := Ground.guard }], guard := Option.some (3, Bool.true) }) (v := undef) rfl (by kernel_rfl) (by kernel_rfl) (by kernel_rfl) (fun _ _ _ h => h) (Or.inr ⟨by rfl, rfl⟩) (by assumption) ?_; (try simp only [Act.put, List.setIfInBounds_toArray, List.set_cons_zero, List.set_cons_succ]); refine wpAnyH_take (i := 5) (oi := { dst := Option.some 29, op := Op.move (Operand.tmp 7), type := 9, pos := "mid.go:54", after := #[{ on := 3, ground := Ground.guard }], guard := Option.some (3, Bool.true) }) (v := undef) rfl (by kernel_rfl) (by kernel_rfl) (by kernel_rfl) (fun _ _ _ h => h) (Or.inr ⟨by rfl, rfl⟩) (by assumption) ?_; (try simp only [Act.put, List.setIfInBounds_toArray, List.set_cons_zero, List.set_cons_succ]); refine wpAnyH_take (i := 6) (oi := { dst := Option.some 30, op := Op.move (Operand.tmp 0), type := 9, pos := "mid.go:54", after := #[{ on := 3, ground := Ground.guard }], guard := Option.some (3, Bool.true) }) (v := undef) rfl (by kernel_rfl) (by kernel_rfl) (by kernel_rfl) (fun _ _ _ h => h) (Or.inr ⟨by rfl, rfl⟩) (by assumption) ?_; (try simp only [Act.put, List.setIfInBounds_toArray, List.set_cons_zero, List.set_cons_succ]); refine wpAnyH_take (i := 7) (oi := { dst := Option.some 31, op := Op.call { callee := Callee.builtin Builtin.len, args := #[Operand.tmp 30], argTypes := #[9] }, type := 3, pos := "mid.go:54", after := #[{ on := 6, ground := Ground.data }, { on := 3, ground := Ground.guard }], guard := Option.some (3, Bool.true) }) (v := undef) rfl (by kernel_rfl) (by kernel_rfl) (by kernel_rfl) (fun _ _ _ h => h) (Or.inr ⟨by rfl, rfl⟩) (by assumption) ?_; (try simp only [Act.put, List.setIfInBounds_toArray, List.set_cons_zero, List.set_cons_succ]); refine wpAnyH_take (i := 8) (oi := { dst := Option.some 32, op := Op.slice 9 (Operand.tmp 29) (Option.some (Operand.tmp 31)) Option.none Option.none, type := 9, pos := "mid.go:54", after := #[{ on := 5, ground := Ground.data }, { on := 7, ground := Ground.data }, { on := 3, ground := Ground.guard }], guard := Option.some (3, Bool.true) }) (v := undef) rfl (by kernel_rfl) (by kernel_rfl) (by kernel_rfl) (fun _ _ _ h => h) (Or.inr ⟨by rfl, rfl⟩) (by assumption) ?_; (try simp only [Act.put, List.setIfInBounds_toArray, List.set_cons_zero, List.set_cons_succ]); refine wpAnyH_take (i := 9) (oi := { dst := Option.some 33, op := Op.call { callee := Callee.value (Operand.tmp 28), args := #[Operand.tmp 32], argTypes := #[9] }, type := 4, pos := "mid.go:54", after := #[{ on := 4, ground := Ground.data }, { on := 8, ground := Ground.data }, { on := 3, ground := Ground.chain }, { on := 3, ground := Ground.guard }], guard := Option.some (3, Bool.true) }) (v := undef) rfl (by kernel_rfl) (by kernel_rfl) (by kernel_rfl) (fun _ _ _ h => h) (Or.inr ⟨by rfl, rfl⟩) (by assumption) ?_; (try simp only [Act.put, List.setIfInBounds_toArray, List.set_cons_zero, List.set_cons_succ]); refine wpAnyH_take (i := 10) (oi := { dst := Option.some 34, op := Op.pick (Operand.tmp 27) (Operand.tmp 33) (Operand.const (Value.bool Bool.false)), type := 4, pos := "mid.go:54", after := #[{ on := 3, ground := Ground.data }, { on := 9, ground := Ground.data }], guard := Option.none }) (v := ?tv39) rfl (by kernel_rfl) (by kernel_rfl) (by kernel_rfl) (fun _ _ _ h => h) (Or.inl ⟨by rfl, ?ty39⟩) (by assumption) ?tr39; (case ty39 => (intro w hSw; (try dsimp only at hSw); go_simp; try (with_reducible rfl))); (try simp only [Act.put, List.setIfInBounds_toArray, List.set_cons_zero, List.set_cons_succ]); refine wpAnyH_take (i := 11) (oi := { dst := Option.some 35, op := Op.move (Operand.tmp 34), type := 4, pos := "mid.go:54", after := #[{ on := 10, ground := Ground.data }, { on := 9, ground := Ground.chain }], guard := Option.none }) (v := ?tv40) rfl (by kernel_rfl) (by kernel_rfl) (by kernel_rfl) (fun _ _ _ h => h) (Or.inl ⟨by rfl, ?ty40⟩) (by assumption) ?tr40; (case ty40 => (intro w hSw; (try dsimp only at hSw); go_simp; try (with_reducible rfl))); (try simp only [Act.put, List.setIfInBounds_toArray, List.set_cons_zero, List.set_cons_succ]); refine wpAnyH_take (i := 12) (oi := { dst := Option.some 36, op := Op.move (Operand.tmp 0), type := 9, pos := "mid.go:54", after := #[{ on := 11, ground := Ground.guard }], guard := Option.some (11, Bool.false) }) (v := ?tv41) rfl (by kernel_rfl) (by kernel_rfl) (by kernel_rfl) (fun _ _ _ h => h) (Or.inl ⟨by rfl, ?ty41⟩) (by assumption) ?tr41; (case ty41 => (intro w hSw; (try dsimp only at hSw); go_simp; try (with_reducible rfl))); (try simp only [Act.put, List.setIfInBounds_toArray, List.set_cons_zero, List.set_cons_succ]); refine wpAnyH_take (i := 13) (oi := { dst := Option.some 37, op := Op.move (Operand.tmp 7), type := 9, pos := "mid.go:54", after := #[{ on := 11, ground := Ground.guard }], guard := Option.some (11, Bool.false) }) (v := ?tv42) rfl (by kernel_rfl) (by kernel_rfl) (by kernel_rfl) (fun _ _ _ h => h) (Or.inl ⟨by rfl, ?ty42⟩) (by assumption) ?tr42; (case ty42 => (intro w hSw; (try dsimp only at hSw); go_simp; try (with_reducible rfl))); (try simp only [Act.put, List.setIfInBounds_toArray, List.set_cons_zero, List.set_cons_succ])
              refine wpAnyH_ready (rs := [14]) (by kernel_rfl) (by simp) ?_
              refine AllReadyH.cons (o := { dst := Option.some 38, op := Op.call { callee := Callee.value (Operand.func 38), args := #[Operand.tmp 36, Operand.tmp 37], argTypes := #[9, 9] }, type := 4, pos := "mid.go:54", after := #[{ on := 12, ground := Ground.data }, { on := 13, ground := Ground.data }, { on := 11, ground := Ground.chain }, { on := 11, ground := Ground.guard }], guard := Option.some (11, Bool.false) }) rfl (fun K0 hK => ?_) AllReadyH.nil
              go_simp
              with_reducible refine (hp2 _).mono ?_
              rintro e w5 ⟨rfl, rfl⟩
              refine hK.out _ _ hct (fun hHeld => ?_)
              clear hK K0
              (try simp only [Act.put, List.setIfInBounds_toArray, List.set_cons_zero, List.set_cons_succ])
              refine wpAnyH_take (i := 15) (oi := { dst := Option.some 39, op := Op.move (Operand.tmp 38), type := 4, pos := "mid.go:54", after := #[{ on := 14, ground := Ground.data }, { on := 14, ground := Ground.chain }, { on := 11, ground := Ground.guard }], guard := Option.some (11, Bool.false) }) (v := ?tv43) rfl (by kernel_rfl) (by kernel_rfl) (by kernel_rfl) (fun _ _ _ h => h) (Or.inl ⟨by rfl, ?ty43⟩) (by assumption) ?tr43; (case ty43 => (intro w hSw; (try dsimp only at hSw); go_simp; try (with_reducible rfl))); (try simp only [Act.put, List.setIfInBounds_toArray, List.set_cons_zero, List.set_cons_succ]); refine wpAnyH_take (i := 16) (oi := { dst := Option.some 40, op := Op.load 64 (Operand.tmp 3), type := 64, pos := "mid.go:54", after := #[{ on := 15, ground := Ground.guard }], guard := Option.some (15, Bool.true) }) (v := undef) rfl (by kernel_rfl) (by kernel_rfl) (by kernel_rfl) (fun _ _ _ h => h) (Or.inr ⟨by rfl, rfl⟩) (by assumption) ?_; (try simp only [Act.put, List.setIfInBounds_toArray, List.set_cons_zero, List.set_cons_succ]); refine wpAnyH_take (i := 17) (oi := { dst := Option.some 41, op := Op.move (Operand.tmp 0), type := 9, pos := "mid.go:54", after := #[{ on := 15, ground := Ground.guard }], guard := Option.some (15, Bool.true) }) (v := undef) rfl (by kernel_rfl) (by kernel_rfl) (by kernel_rfl) (fun _ _ _ h => h) (Or.inr ⟨by rfl, rfl⟩) (by assumption) ?_; (try simp only [Act.put, List.setIfInBounds_toArray, List.set_cons_zero, List.set_cons_succ]); refine wpAnyH_take (i := 18) (oi := { dst := Option.some 42, op := Op.move (Operand.tmp 7), type := 9, pos := "mid.go:54", after := #[{ on := 15, ground := Ground.guard }], guard := Option.some (15, Bool.true) }) (v := undef) rfl (by kernel_rfl) (by kernel_rfl) (by kernel_rfl) (fun _ _ _ h => h) (Or.inr ⟨by rfl, rfl⟩) (by assumption) ?_; (try simp only [Act.put, List.setIfInBounds_toArray, List.set_cons_zero, List.set_cons_succ]); refine wpAnyH_take (i := 19) (oi := { dst := Option.some 43, op := Op.call { callee := Callee.builtin Builtin.len, args := #[Operand.tmp 42], argTypes := #[9] }, type := 3, pos := "mid.go:54", after := #[{ on := 18, ground := Ground.data }, { on := 15, ground := Ground.guard }], guard := Option.some (15, Bool.true) }) (v := undef) rfl (by kernel_rfl) (by kernel_rfl) (by kernel_rfl) (fun _ _ _ h => h) (Or.inr ⟨by rfl, rfl⟩) (by assumption) ?_; (try simp only [Act.put, List.setIfInBounds_toArray, List.set_cons_zero, List.set_cons_succ]); refine wpAnyH_take (i := 20) (oi := { dst := Option.some 44, op := Op.slice 9 (Operand.tmp 41) (Option.some (Operand.tmp 43)) Option.none Option.none, type := 9, pos := "mid.go:54", after := #[{ on := 17, ground := Ground.data }, { on := 19, ground := Ground.data }, { on := 15, ground := Ground.guard }], guard := Option.some (15, Bool.true) }) (v := undef) rfl (by kernel_rfl) (by kernel_rfl) (by kernel_rfl) (fun _ _ _ h => h) (Or.inr ⟨by rfl, rfl⟩) (by assumption) ?_; (try simp only [Act.put, List.setIfInBounds_toArray, List.set_cons_zero, List.set_cons_succ]); refine wpAnyH_take (i := 21) (oi := { dst := Option.some 45, op := Op.call { callee := Callee.value (Operand.tmp 40), args := #[Operand.tmp 44], argTypes := #[9] }, type := 4, pos := "mid.go:54", after := #[{ on := 16, ground := Ground.data }, { on := 20, ground := Ground.data }, { on := 15, ground := Ground.chain }, { on := 15, ground := Ground.guard }], guard := Option.some (15, Bool.true) }) (v := undef) rfl (by kernel_rfl) (by kernel_rfl) (by kernel_rfl) (fun _ _ _ h => h) (Or.inr ⟨by rfl, rfl⟩) (by assumption) ?_; (try simp only [Act.put, List.setIfInBounds_toArray, List.set_cons_zero, List.set_cons_succ]); refine wpAnyH_take (i := 22) (oi := { dst := Option.some 46, op := Op.pick (Operand.tmp 39) (Operand.tmp 45) (Operand.const (Value.bool Bool.false)), type := 4, pos := "mid.go:54", after := #[{ on := 15, ground := Ground.data }, { on := 21, ground := Ground.data }, { on := 11, ground := Ground.guard }], guard := Option.some (11, Bool.false) }) (v := ?tv44) rfl (by kernel_rfl) (by kernel_rfl) (by kernel_rfl) (fun _ _ _ h => h) (Or.inl ⟨by rfl, ?ty44⟩) (by assumption) ?tr44; (case ty44 => (intro w hSw; (try dsimp only at hSw); go_simp; try (with_reducible rfl))); (try simp only [Act.put, List.setIfInBounds_toArray, List.set_cons_zero, List.set_cons_succ]); refine wpAnyH_take (i := 23) (oi := { dst := Option.some 47, op := Op.pick (Operand.tmp 35) (Operand.const (Value.bool Bool.true)) (Operand.tmp 46), type := 4, pos := "mid.go:54", after := #[{ on := 11, ground := Ground.data }, { on := 22, ground := Ground.data }], guard := Option.none }) (v := ?tv45) rfl (by kernel_rfl) (by kernel_rfl) (by kernel_rfl) (fun _ _ _ h => h) (Or.inl ⟨by rfl, ?ty45⟩) (by assumption) ?tr45; (case ty45 => (intro w hSw; (try dsimp only at hSw); go_simp; try (with_reducible rfl))); (try simp only [Act.put, List.setIfInBounds_toArray, List.set_cons_zero, List.set_cons_succ])
              refine wpAnyH_done (by kernel_rfl) ?_ _
              clear hp1 hp2
              go_wp2
              go_roundw
              case measure => simp [intOf]; omega
              case rel => exact ⟨k + 1, by omega, by go_num, HG6, HT6⟩
        · have hdl : decide ((k : Int) < (n : Int)) = false := decide_eq_false (by omega)
          obtain rfl : n = k := by omega
          have HF : Hid (TwPost (cws g n) M S K (wd over) w (.returned (.bool false)) wr) := by
            obtain ⟨S2, K2, c1, c2, c3, c4, c5, c6⟩ := HT.out
            refine ⟨false, S2, K2, rfl, HG.out, c1, c2, fun o ho => c3 o (List.mem_cons_of_mem _ ho), by have := HLT.out; omega, fun h => (by cases h), fun _ => ⟨c3 _ List.mem_cons_self, fun o ho hno o' hs => ?_⟩⟩
            by_cases hS1 : o ∈ wd over :: S
            · rcases List.mem_cons.1 hS1 with rfl | h
              · obtain ⟨v, hv, hs⟩ := hs
                obtain ⟨j, hj, rfl⟩ := mem_cws.1 hv
                exact c5 j hj o' hs
              · exact absurd h hno
            · exact c6 o ho hS1 o' hs
          clear HT HG
          go_wp2
          go_ret
          exact HF.out
theorem twice_any (Bm Bl Bt M : Nat) (A : Option Addr) (n c : Nat) (g : Nat → ByteArray) (hn : n ≤ 12) (hgood : Cm.Good (cws g n)) : ∀ (f : Nat) (S : List (List UInt8)) (K : Nat) (w : World) (over : ByteArray),
    SoleW w Bm Bl Bt M A n c g → CMap w M S K → [] ∉ S → Cm.End (cws g n) (wd over) → Cm.left (cws g n) S ≤ f → K + 24 * Cm.left (cws g n) S + 1 ≤ 900000 →
    Calls Try.prog 39 #[.string over, .pointer (some ⟨Bm, 0, none⟩), .pointer (some ⟨Bl, 0, none⟩), .pointer (some ⟨Bt, 0, none⟩)] w (TwPost (cws g n) M S K (wd over) w) := by
  intro f
  induction f with
  | zero =>
    intro S K w over h1 h2 h3 h4 h5 h6
    exact twice_step Bm Bl Bt M A n c g hn hgood S K w over h1 h2 h3 h4 h6 fun S2 K2 w2 o2 _ _ _ _ h _ => by omega
  | succ f ih =>
    intro S K w over h1 h2 h3 h4 h5 h6
    exact twice_step Bm Bl Bt M A n c g hn hgood S K w over h1 h2 h3 h4 h6 fun S2 K2 w2 o2 g1 g2 g3 g4 g5 g6 => ih S2 K2 w2 o2 g1 g2 g3 g4 (by omega) g6
end Go.Proofs.Ytpjhmmoncbghdaa
