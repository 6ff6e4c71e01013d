
/-
The contracts of pack.Put and, where the seat has it, of quilllaw.joined: the words that numbers name, in a row.
-/
import Derived.Test.YtapjodbaaejldaaPackP
import Derived.Test.YtapjodbaaejldaaCodeK
import Derived.Test.YtapjodbaaejldaaBuild
namespace Go.Proofs.Ytapjodbaaejldaa
open Go.RowKit

theorem good_few {g : Nat → ByteArray} {n : Nat} (h : Cm.Good (cws g n)) : n ≤ 12 ∧ ∀ k, k < n → (g k).size ≤ 12 := by
  refine ⟨by have := h.few; rw [cws_len] at this; exact this, fun k hk => ?_⟩
  have := h.short _ (mem_cws.2 ⟨k, hk, rfl⟩)
  rw [wd_len] at this
  exact this
theorem putT_le (g : Nat → ByteArray) (n : Nat) (gm : Nat → Int) (m : Nat) : (putT g n gm m).length ≤ 2400 := by
  unfold putT
  by_cases h : putE g n gm m = 0
  · rw [if_pos h]
    obtain ⟨h1, h2, h3⟩ := putE_zero.1 h
    have := tx_le (good_few (Cm.cErr_zero.1 h1)).2 h3
    omega
  · rw [if_neg h]; simp
theorem cells_wd (l : List UInt8) (s : ByteArray) : Lib.byteCells l ++ Lib.strCells s = Lib.byteCells (l ++ wd s) := by
  unfold Lib.strCells Lib.byteCells
  rw [List.map_append]
  rfl
/-- The builder holds l. -/
def Bld (N : Nat) (l : List UInt8) (w : World) : Prop := Lib.IsBuilder 83 5 N N (Lib.byteCells l) w
theorem Bld.new (w : World) : Bld w.heap.size [] (w.alloc (.cells #[.pointer none, .slice none 0 0] 83)) := Lib.fresh_isBuilder 83 5 w
theorem Bld.write {N : Nat} {l : List UInt8} {w : World} (s : ByteArray) (h : Bld N l w) (hl : l.length + s.size ≤ 1000000) (hN : N ≤ w.heap.size) :
    Calls Try.prog 59 #[.pointer (some ⟨N, 0, none⟩), .string s] w fun e w' => e = .returned (.tuple #[.int .i64 s.size, .nilIface]) ∧ Bld N (l ++ wd s) w' ∧ Below N w w' := by
  refine (Try.build_write N N (Lib.byteCells l) s w h (by rw [Lib.byteCells_length]; omega) hN).mono ?_
  rw [cells_wd]
  rintro e w' ⟨rfl, h1, h2⟩
  exact ⟨rfl, .inr h1, h2⟩
theorem Bld.read {N : Nat} {l : List UInt8} {w : World} (h : Bld N l w) (hN : N ≤ w.heap.size) :
    Calls Try.prog 60 #[.pointer (some ⟨N, 0, none⟩)] w fun e w' => e = .returned (.string ⟨l.toArray⟩) ∧ Below N w w' := Try.build_string N N l w h hN

set_option maxHeartbeats 1000000 in
theorem Put_any {A : Option Addr} {n c : Nat} {g : Nat → ByteArray} {B : Option Addr} {m d : Nat} {gm : Nat → Int} (w : World) (h : SRow w A n g) (hc : n ≤ c) (h2 : IRow w B m gm) :
    Calls Try.prog 37 #[.slice A n c, .slice B m d] w (PutPost g n gm m w) := by
  have H := hid h
  have H2 := hid h2
  have hK := check_any w h hc
  clear h h2
  by_cases hE : Cm.cErr (cws g n) = 0
  · obtain ⟨hn, hz⟩ := good_few (Cm.cErr_zero.1 hE)
    have HZ := hid hz
    have HE := hid hE
    rw [hE] at hK
    clear hz hE
    by_cases hm : 200 < m
    · have HP : Hid (putE g n gm m = 2) := by show _ = _; unfold putE; rw [if_neg (by simpa using HE.out), if_pos hm]
      have hm' : (200 : Int) < (m : Int) := by omega
      go_enter Try.func37, Try.ntmps37
      go_wp2_with fail
      with_reducible refine hK.mono ?_
      rintro e w1 ⟨rfl, rfl⟩
      clear hK
      go_wp2
      go_ret2
      exact PutPost.no HP.out (by decide) (Below.refl _ _)
    · have hm' : decide ((200 : Int) < (m : Int)) = false := decide_eq_false (by omega)
      have HFR := hid (Bld.new w)
      have HB0 := hid (bl_new w (.cells #[.pointer none, .slice none 0 0] 83))
      go_enter Try.func37, Try.ntmps37
      go_wp2_with fail
      with_reducible refine hK.mono ?_
      rintro e w1 ⟨rfl, rfl⟩
      clear hK
      go_wp2
      go_loopw [20] (fun y wr => ∃ i : Nat, i ≤ m ∧ y = .int .i64 (i : Int) ∧ Hid (∀ k, k < i → 0 ≤ gm k ∧ gm k < (n : Int)) ∧ Hid (Bld w.heap.size (tx g gm i) wr) ∧ Hid (Below w.heap.size w wr)) (fun y _ => m - (intOf y).toNat)
      case atStart => exact ⟨0, by omega, rfl, fun k hk => by omega, HFR, HB0⟩
      case round =>
        clear HFR HB0
        obtain ⟨i, hi, rfl, HI, HU, HB⟩ := hrel
        have hBw := HB.out.size
        by_cases hlt : i < m
        · have hlt' : (i : Int) < (m : Int) := by omega
          obtain ⟨b, o, rfl, hbl, hc0⟩ := H2.out i hlt
          have hci := (HB.out.cell (p := ⟨b, o + i, none⟩) hbl).trans hc0
          clear hc0
          have HLe := hid (tx_le HZ.out HI.out)
          have HT2 := hid (tx_succ g gm i)
          by_cases hneg : gm i < 0
          · have HP : Hid (putE g n gm m = 1) := by
              show _ = _
              unfold putE
              rw [if_neg (by simpa using HE.out), if_neg (by omega), if_pos (inB_no hlt (.inl hneg))]
            clear HI HU HT2 HLe
            generalize gm i = v at hci hneg
            go_wp2
            go_ret2
            exact PutPost.no HP.out (by decide) HB.out
          · have hneg' : decide (gm i < 0) = false := decide_eq_false hneg
            by_cases hge : (n : Int) ≤ gm i
            · have HP : Hid (putE g n gm m = 1) := by
                show _ = _
                unfold putE
                rw [if_neg (by simpa using HE.out), if_neg (by omega), if_pos (inB_no hlt (.inr hge))]
              clear HI HU HT2 HLe
              generalize gm i = v at hci hneg hneg' hge
              go_wp2
              go_ret2
              exact PutPost.no HP.out (by decide) HB.out
            · obtain ⟨r, hr⟩ : ∃ r : Nat, r = (gm i).toNat := ⟨_, rfl⟩
              have hrn : r < n := by omega
              have hgi : gm i = (r : Int) := by omega
              have HI2 : Hid (∀ k, k < i + 1 → 0 ≤ gm k ∧ gm k < (n : Int)) := by
                intro k hk
                by_cases e : k = i
                · subst e; omega
                · exact HI.out k (by omega)
              rw [← hr] at HT2
              rw [hgi] at hci
              clear hneg hneg' hge hr hgi HI
              have hge' : decide ((n : Int) ≤ (r : Int)) = false := decide_eq_false (by omega)
              obtain ⟨b2, o2, rfl, hbl2, hc2⟩ := H.out r hrn
              have hcs := (HB.out.cell (p := ⟨b2, o2 + r, none⟩) hbl2).trans hc2
              have hzr := HZ.out r hrn
              clear hc2
              go_wp2_with fail
              with_reducible refine (Bld.write (g r) HU.out (by have := HLe.out; omega) hBw).mono ?_
              rw [← HT2.out]
              rintro e w3 ⟨rfl, hU3, hb3⟩
              have HU3 := hid hU3
              have HB3 := hid (HB.out.trans hb3)
              clear hU3 hb3 HU HB HT2 HLe hcs hci
              go_wp2
              go_roundw
              case measure => simp [intOf]; omega
              case rel => exact ⟨i + 1, by omega, by go_num, HI2, HU3, HB3⟩
        · obtain rfl : m = i := by omega
          have hdl : decide ((m : Int) < (m : Int)) = false := decide_eq_false (by omega)
          have HP : Hid (putE g n gm m = 0) := putE_zero.2 ⟨HE.out, by omega, HI.out⟩
          go_wp2_with fail
          with_reducible refine (Bld.read HU.out hBw).mono ?_
          rintro e w3 ⟨rfl, hb3⟩
          have HB3 := hid (HB.out.trans hb3)
          clear hb3 HU HB HI
          go_wp2
          go_ret2
          exact PutPost.ok HP.out rfl HB3.out
  · have hE' : (Cm.cErr (cws g n) != 0) = true := bne_iff_ne.2 hE
    have HP : Hid (putE g n gm m = Cm.cErr (cws g n)) := by show _ = _; unfold putE; rw [if_pos hE]
    have HE := hid hE
    generalize Cm.cErr (cws g n) = E at hK hE' HP HE
    clear hE
    go_enter Try.func37, Try.ntmps37
    go_wp2_with fail
    with_reducible refine hK.mono ?_
    rintro e w1 ⟨rfl, rfl⟩
    clear hK
    go_wp2
    go_ret2
    exact PutPost.no HP.out HE.out (Below.refl _ _)
end Go.Proofs.Ytapjodbaaejldaa
