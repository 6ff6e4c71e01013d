
/-
The contract of phrase.put and phrase.Put.
-/
import Derived.Test.YtpifmahnlapdbaaPhRow
import Derived.Test.YtpifmahnlapdbaaWordB
namespace Go.Proofs.Ytpifmahnlapdbaa
open Go.RowKit Go.Maps Go.WideMaps

theorem Try.laidOutP : laidOutB Try.prog = true := by kernel_rfl
theorem Try.cellsPh : Try.prog.cellsOf 33 = 2 := by kernel_rfl
theorem Try.cellsInt_ : Try.prog.cellsOf 3 = 1 := by kernel_rfl
theorem Try.cellsByte_ : Try.prog.cellsOf 5 = 1 := by kernel_rfl
theorem ph_row : 33 < Try.prog.types.size := of_decide_eq_true (by kernel_rfl)
theorem ph_wide : (match Try.prog.underlying 33 with | some (.array _ _) | some (.struct _) => true | _ => false) = true := by rw [Try.underlying33]
theorem law_ph : Keyed Try.prog 33 := Keyed.of_law (deep_law_laid Try.laidOutP (m := 2) (by omega) ph_row (by kernel_rfl) ph_wide)
theorem ph_keyType : Try.prog.keyType 33 = true := by kernel_rfl
theorem ph_formed {c0 c1 : Value} : (Value.agg #[c0, c1]).formed Try.prog 33 = true := by simp [Value.formed, Try.underlying33, Try.cellsPh]
/-- A phrase as a key. -/
def kp (p : Ph.P) : Lit := .string (keyBytes [.int .i64 p.1, .int .u8 (p.2.toNat : Int)])
theorem u8_wf_ (c : UInt8) : (Lit.int .u8 (c.toNat : Int)).wf = true := by
  have := c.toNat_lt
  simp [Lit.wf, IntKind.min, IntKind.max, IntKind.signed, IntKind.bits]
  omega
/-- The phrases that are spoken of. -/
def PhG (p : Ph.P) : Prop := ∃ b : Nat, p.1 = (b : Int) ∧ b ≤ 4611686018427387904
theorem key_ph {p : Ph.P} (h : PhG p) : keyOf Try.prog 33 (.agg #[.int .i64 p.1, .int .u8 (p.2.toNat : Int)]) = some (kp p) := by
  obtain ⟨b, hb, hle⟩ := h
  have hw : (Lit.int .i64 p.1).wf = true := WalkArith.wf_i64 ⟨by omega, by omega⟩
  have hu := u8_wf_ p.2
  unfold keyOf
  rw [Try.underlying33]
  dsimp only
  rw [ph_keyType, ph_formed]
  obtain ⟨N, hN⟩ : ∃ N, Try.prog.types.size = N + 1 := ⟨Try.prog.types.size - 1, by have := ph_row; omega⟩
  rw [hN]
  simp [Program.keyLits, Try.underlying33, Try.underlying3, Try.underlying5, Try.cellsPh, Try.cellsInt_, Try.cellsByte_, Value.cells, hw, hu]
  rfl
theorem kp_inj (x y : Ph.P) (hx : PhG x) (hy : PhG y) (h : kp x = kp y) : x = y := by
  have e := law_ph.inj (key_ph hx) (by rw [h]; exact key_ph hy)
  injection e with e
  simp only [Array.mk.injEq, List.cons.injEq, Value.int.injEq, true_and, and_true] at e
  refine Prod.ext e.1 (UInt8.toNat_inj.1 ?_)
  omega
theorem lst_at {s : ByteArray} {i : Nat} (h : i < s.size) : (lst s).take (i + 1) = (lst s).take i ++ [s[i]] := by
  have hl : i < (lst s).length := by rw [lst_len]; exact h
  rw [List.take_add_one, List.getElem?_eq_getElem hl]
  rfl
theorem pr_succ {s : ByteArray} {i : Nat} (h : i < s.size) : Ph.prun ((lst s).take (i + 1)) = Ph.pstep (Ph.prun ((lst s).take i)) s[i] := by rw [lst_at h, Ph.prun_snoc]
theorem lst_cut {s : ByteArray} {f i : Nat} (h : i < s.size) (hf : f ≤ i) : ((lst s).drop f).take (i + 1 - f) = ((lst s).drop f).take (i - f) ++ [s[i]] := by
  have hl : i < (lst s).length := by rw [lst_len]; exact h
  rw [show i + 1 - f = (i - f) + 1 by omega, List.take_add_one, List.getElem?_drop, show f + (i - f) = i by omega, List.getElem?_eq_getElem hl]
  rfl
theorem mem_yes {L : List Ph.P} {b : Nat} {c : UInt8} (h : L.contains ((b : Int), c) = true) : Ph.pstep (L, b) c = (L, L.idxOf ((b : Int), c) + 1) := by
  unfold Ph.pstep; rw [if_pos (List.contains_iff_mem.1 h)]
theorem mem_no {L : List Ph.P} {b : Nat} {c : UInt8} (h : L.contains ((b : Int), c) = false) : Ph.pstep (L, b) c = (L ++ [((b : Int), c)], 0) := by
  unfold Ph.pstep; rw [if_neg (fun hm => by rw [List.contains_iff_mem.2 hm] at h; cases h)]
theorem rest_yes {l : List UInt8} {L : List Ph.P} {b : Nat} {c : UInt8} (hl : Ph.prun l = (L, b)) (h : L.contains ((b : Int), c) = true) : Ph.prest (l ++ [c]) = Ph.prest l ++ [c] := by
  have hg := Ph.prun_good l
  unfold Ph.prest
  rw [Ph.prun_snoc, hl, mem_yes h]
  rw [hl] at hg
  exact hg.at_ (List.contains_iff_mem.1 h)
theorem rest_no {l : List UInt8} {L : List Ph.P} {b : Nat} {c : UInt8} (hl : Ph.prun l = (L, b)) (h : L.contains ((b : Int), c) = false) : Ph.prest (l ++ [c]) = [] := by
  unfold Ph.prest
  rw [Ph.prun_snoc, hl, mem_no h]
  exact Ph.tx_zero _
theorem put_step {w wr w2 : World} {vv : Value} {L : List Ph.P} {b : Nat} {c : UInt8} {g cap : Nat} (hB : Below w.heap.size w wr) (hW : w.heap.size < wr.heap.size)
    (hM : MIx kp PhG (wr.alloc (.cells #[.int .i64 (b : Int), .int .u8 (c.toNat : Int)] 33)) 33 w.heap.size 1 L) (hlt : ∀ k, vv.ownBlock = some k → w.heap.size + 1 ≤ k ∧ k < wr.heap.size)
    (hown : OwnP w2 (w.heap.size + 1) (.slice (some ⟨g, 0, none⟩) (L.length + 1) cap) (L ++ [((b : Int), c)])) (hg : (wr.alloc (.cells #[.int .i64 (b : Int), .int .u8 (c.toNat : Int)] 33)).grownBy w2 vv.ownBlock)
    (hL : L.length ≤ 200) (hc : L.contains ((b : Int), c) = false) (hp : PhG ((b : Int), c)) :
    w2.cell? ⟨wr.heap.size, 0, none⟩ = some (.int .i64 (b : Int)) ∧ w2.cell? ⟨wr.heap.size, 1, none⟩ = some (.int .u8 (c.toNat : Int)) ∧
    ∃ w3, (Instr.mapUpdate 67 (.map (some w.heap.size)) (.agg #[.int .i64 (b : Int), .int .u8 (c.toNat : Int)]) (.int .i64 ((L.length : Int) + 1))).run Try.prog w2 = .ok () w3 ∧
      Hid (MIx kp PhG w3 33 w.heap.size 1 (L ++ [((b : Int), c)])) ∧ Hid (OwnP w3 (w.heap.size + 1) (.slice (some ⟨g, 0, none⟩) (L.length + 1) cap) (L ++ [((b : Int), c)])) ∧ Hid (Below w.heap.size w w3) ∧ w.heap.size < w3.heap.size := by
  have hne : some wr.heap.size ≠ vv.ownBlock := fun e => by have := (hlt _ e.symm).2; omega
  have hneB : some w.heap.size ≠ vv.ownBlock := fun e => by have := (hlt _ e.symm).1; omega
  have e0 : (wr.alloc (.cells #[.int .i64 (b : Int), .int .u8 (c.toNat : Int)] 33)).cell? ⟨wr.heap.size, 0, none⟩ = some (.int .i64 (b : Int)) := by rw [cell_of_row _ _ _ _ _ _ (heap_alloc_new wr _)]; rfl
  have e1 : (wr.alloc (.cells #[.int .i64 (b : Int), .int .u8 (c.toNat : Int)] 33)).cell? ⟨wr.heap.size, 1, none⟩ = some (.int .u8 (c.toNat : Int)) := by rw [cell_of_row _ _ _ _ _ _ (heap_alloc_new wr _)]; rfl
  have hM2 := hM.grown hg hneB
  obtain ⟨w3, hrun, hM3, hg3⟩ := hM2.put (by omega) law_ph Try.underlying67 kp_inj (key_ph hp) hp hc (v := L.length + 1) rfl (by omega)
  have hB1 : Below w.heap.size w (wr.alloc (.cells #[.int .i64 (b : Int), .int .u8 (c.toNat : Int)] 33)) := hB.alloc (by omega) _
  have hB2 := hB1.grown hg (by simp; omega) (fun k hk => by have := (hlt k hk).1; omega)
  have hS : wr.heap.size + 1 ≤ w2.heap.size := by have := hg.size; simpa using this
  have hB3 := hB2.grown hg3 (by omega) (fun k hk => by cases hk; exact Nat.le_refl _)
  refine ⟨hg.cell e0 hne, hg.cell e1 hne, w3, by exact_mod_cast hrun, hM3, OwnP.of_block hown (fun k hk => ?_), hB3, Nat.lt_of_lt_of_le (by omega) hg3.size⟩
  have hk2 := hown.lt_ k hk
  exact hg3.block k hk2.2 (fun e => by injection e with e; omega)
theorem put_any (s : ByteArray) (w : World) (hs : s.size ≤ 200) :
    Calls Try.prog 22 #[.string s] w fun e w' => ∃ v, e = .returned (.tuple #[v, .string (mkS (Ph.prest (lst s)))]) ∧ OwnP w' w.heap.size v (Ph.prun (lst s)).1 ∧ Below w.heap.size w w' := by
  have hmm := @run_makeMap Try.prog
  have HM0 : Hid (MIx kp PhG (w.alloc (.map #[] 0)) 33 w.heap.size 1 []) := MIx.new w
  have HB0 : Hid (Below w.heap.size w (w.alloc (.map #[] 0))) := bl_new w _
  go_enter Try.func22, Try.ntmps22
  go_wp2
  clear hmm
  go_loopw [15, 4, 6, 7] (fun x v bb ff wr => ∃ i f b : Nat, ∃ L, ∃ vv, vv = v ∧ i ≤ s.size ∧ f ≤ i ∧ Hid (Ph.prun ((lst s).take i) = (L, b)) ∧ x = .int .i64 (i : Int) ∧ bb = .int .i64 (b : Int) ∧ ff = .int .i64 (f : Int) ∧ Hid (Ph.prest ((lst s).take i) = ((lst s).drop f).take (i - f)) ∧ Hid (OwnP wr (w.heap.size + 1) vv L) ∧ Hid (MIx kp PhG wr 33 w.heap.size 1 L) ∧ Hid (Below w.heap.size w wr) ∧ w.heap.size < wr.heap.size) (fun x _ _ _ _ => s.size - (intOf x).toNat)
  case atStart => exact ⟨0, 0, 0, [], _, rfl, by omega, by omega, rfl, rfl, rfl, rfl, rfl, OwnP.zero _ _, HM0, HB0, by simp⟩
  case round =>
    clear HM0 HB0
    obtain ⟨i, f, b, L, vv, rfl, hi, hf, HL, rfl, rfl, rfl, HF, HO, HM, HB, hW⟩ := hrel
    by_cases hlt : i < s.size
    · have hlt' : (i : Int) < (s.size : Int) := by omega
      have HG : Hid (Ph.Good L b) := by have := Ph.prun_good ((lst s).take i); rw [HL.out] at this; exact this
      have hn : L.length ≤ i := by
        have := Ph.prun_len ((lst s).take i)
        rw [HL.out, List.length_take] at this
        exact Nat.le_trans this (by omega)
      have hbl := HG.out.le
      have hpg : PhG ((b : Int), s[i]) := ⟨b, rfl, by omega⟩
      have hkey := key_ph hpg
      have HP := hid hpg
      have HM1 : Hid (MIx kp PhG (wr.alloc (.cells #[.int .i64 (b : Int), .int .u8 (s[i].toNat : Int)] 33)) 33 w.heap.size 1 L) := HM.out.grown (World.grownBy_alloc wr _ none) (by simp)
      have hlk := HM1.out.look law_ph Try.underlying67 hkey hpg
      obtain ⟨hl1, hl2⟩ := hlk
      have HK := hid hkey
      have HL1 := hid hl1
      have HL2 := hid hl2
      have HB1 : Hid (Below w.heap.size w (wr.alloc (.cells #[.int .i64 (b : Int), .int .u8 (s[i].toNat : Int)] 33))) := HB.out.alloc (by omega) _
      clear hkey hpg hl1 hl2
      cases hc : L.contains ((b : Int), s[i]) with
      | true =>
        obtain ⟨j, hj⟩ : ∃ j, j = L.idxOf ((b : Int), s[i]) + 1 := ⟨_, rfl⟩
        have hlk := HL1.out hc
        rw [← hj] at hlk
        have HLn : Hid (Ph.prun ((lst s).take (i + 1)) = (L, j)) := by
          unfold Hid
          rw [pr_succ hlt, HL.out, mem_yes hc, hj]
        have HFn : Hid (Ph.prest ((lst s).take (i + 1)) = ((lst s).drop f).take (i + 1 - f)) := by
          unfold Hid
          rw [lst_at hlt, rest_yes HL.out hc, HF.out, lst_cut hlt hf]
        have HOn : Hid (OwnP (wr.alloc (.cells #[.int .i64 (b : Int), .int .u8 (s[i].toNat : Int)] 33)) (w.heap.size + 1) vv L) := HO.out.alloc _
        clear HL1 HL2 HK HF HL HM HG hc hj HP HO
        go_wp2
        go_roundw
        case rel => exact ⟨i + 1, f, j, L, _, rfl, by omega, by omega, HLn, by go_num, rfl, rfl, HFn, HOn, HM1, HB1, by simp; omega⟩
        case measure => simp [intOf]; omega
      | false =>
        obtain ⟨c, hlk⟩ := HL2.out hc
        have HLn : Hid (Ph.prun ((lst s).take (i + 1)) = (L ++ [((b : Int), s[i])], 0)) := by
          unfold Hid
          rw [pr_succ hlt, HL.out, mem_no hc]
        have HFn : Hid (Ph.prest ((lst s).take (i + 1)) = ((lst s).drop (i + 1)).take (i + 1 - (i + 1))) := by
          unfold Hid
          rw [lst_at hlt, rest_no HL.out hc, Nat.sub_self, List.take_zero]
        have HOn : Hid (OwnP (wr.alloc (.cells #[.int .i64 (b : Int), .int .u8 (s[i].toNat : Int)] 33)) (w.heap.size + 1) vv L) := HO.out.alloc _
        have hlt0 := HO.out.lt_
        have HV := hid hlt0
        have HC := hid hc
        clear HL1 HL2 HF HL HM HG HO hc hlt0
        go_wp2_with (first
          | (at_builtin; with_reducible refine app_ph (v := vv) rfl _ _ rfl rfl HOn.out (wr.heap.size + 1) (by simp) rfl (by omega) (by omega) ?_; intro g cap w2 hown2 hg2 hor; obtain ⟨hc0, hc1, w3, hput, HM3, HO3, HB3, hW3⟩ := put_step HB.out hW HM1.out HV.out hown2 hg2 (by omega) HC.out HP.out; clear hown2 hg2 hor)
          | go_in)
        clear hput hc0 hc1 hlk HV HC HOn HP HM1 HB1 HB HK
        go_roundw
        case rel => exact ⟨i + 1, i + 1, 0, L ++ [((b : Int), s[i])], _, rfl, by omega, by omega, HLn, by go_num, rfl, by go_num, HFn, HO3, HM3, HB3, hW3⟩
        case measure => simp [intOf]; omega
    · have hd : decide ((i : Int) < (s.size : Int)) = false := decide_eq_false (by omega)
      obtain rfl : i = s.size := by omega
      have e1 : (lst s).take s.size = lst s := List.take_of_length_le (by rw [lst_len]; exact Nat.le_refl _)
      have HR : Hid (mkS (Ph.prest (lst s)) = s.extract f s.size) := by
        have := HF.out
        rw [e1] at this
        unfold Hid
        rw [this, List.take_of_length_le (by rw [List.length_drop, lst_len]; exact Nat.le_refl _), ← lst_drop, mk_lst]
      have HE : Hid (OwnP wr w.heap.size vv (Ph.prun (lst s)).1) := by
        have := HL.out
        rw [e1] at this
        unfold Hid
        rw [this]
        exact HO.out.lower (by omega)
      clear HM HO HF HL
      have hf' : (f : Int) ≤ (s.size : Int) := by omega
      go_wp2
      go_quiet (fail)
      go_wp2
      go_ret2
      rw [HR.out]
      exact ⟨_, rfl, HE.out, bl_drewN HB.out _⟩
/-- What Put answers. -/
theorem Put_ok (s : ByteArray) (w : World) (hs : s.size ≤ 200) :
    Calls Try.prog 7 #[.string s] w fun e w' => ∃ v, e = .returned (.tuple #[v, .string (mkS (Ph.prest (lst s))), .int .i64 0]) ∧ OwnP w' w.heap.size v (Ph.prun (lst s)).1 ∧ Below w.heap.size w w' := by
  go_enter Try.func7, Try.ntmps7
  go_wp2_with fail
  with_reducible refine (check_ok s _ hs).mono ?_
  rintro e w1 ⟨rfl, rfl⟩
  go_wp2_with fail
  with_reducible refine (put_any s _ hs).mono ?_
  rintro e w2 ⟨v, rfl, hown, hb⟩
  have HO := hid hown
  have HB := hid hb
  clear hown hb
  go_wp2
  go_ret3
  exact ⟨v, rfl, HO.out, HB.out⟩
theorem Put_large (s : ByteArray) (w : World) (hs : 200 < s.size) :
    Calls Try.prog 7 #[.string s] w fun e w' => e = .returned (.tuple #[.slice none 0 0, .string ByteArray.empty, .int .i64 2]) ∧ w' = w := by
  go_enter Try.func7, Try.ntmps7
  go_wp2_with fail
  with_reducible refine (check_large s _ hs).mono ?_
  rintro e w1 ⟨rfl, rfl⟩
  go_wp2
  go_ret3
  exact ⟨rfl, rfl⟩
end Go.Proofs.Ytpifmahnlapdbaa
