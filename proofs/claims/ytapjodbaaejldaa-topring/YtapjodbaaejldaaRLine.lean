
/-
The contracts of ring.line and ring.Line: the sequence of the Lyndon words in their order.
-/
import Derived.Test.YtapjodbaaejldaaLineMath
import Derived.Test.YtapjodbaaejldaaRPub
import Derived.Test.YtapjodbaaejldaaBuild
import Derived.Deep.LoopGhost
namespace Go.Proofs.Ytapjodbaaejldaa
open Go.RowKit

theorem isb {T e : TypeId} {B b : Nat} {bs : List Value} {w : World} (h : Lib.BuilderAt T e B b (.pointer (some ⟨b, 0, none⟩)) bs w) : Lib.IsBuilder T e B b bs w := Or.inr h
theorem isb_keep {T e : TypeId} {B b : Nat} {p : Value} {bs : List Value} {w w' : World} (h : Lib.BuilderAt T e B b p bs w) (hb : Below w.heap.size w w') : Lib.BuilderAt T e B b p bs w' := by
  obtain ⟨h1, v, h2, h3, h4⟩ := h
  have hlt : b < w.heap.size := by
    by_cases hx : b < w.heap.size
    · exact hx
    · rw [Array.getElem?_eq_none (by omega)] at h2; cases h2
  exact ⟨h1, v, by rw [hb.block b hlt]; exact h2, own_of_block h3 (fun k hk => hb.block k (World.ownsRow.lt h3 k hk).2), h4⟩
theorem isb_below {T e : TypeId} {B b : Nat} {bs : List Value} {w w' : World} (h : Lib.IsBuilder T e B b bs w) (hb : Below w.heap.size w w') : Lib.IsBuilder T e B b bs w' :=
  h.elim (fun x => .inl (isb_keep x hb)) (fun x => .inr (isb_keep x hb))
theorem Next_sd (k n : Nat) (d : List Nat) (w : World) (h1 : 1 ≤ k) (h8 : k ≤ 8) (hn1 : 1 ≤ n) (hn2 : n ≤ 200) (h0 : 0 < d.length) (hl : d.length ≤ n) (hL : LynS (sd d)) (hd : ∀ x, x ∈ d → x < k) :
    Calls Try.prog 131 #[.string (sd d), .int .i64 (n : Int), .int .u8 ((96 + k : Nat) : Int)] w fun e w' => e = .returned (.tuple #[.string (sd (Rm.nextD k n d)), .int .i64 (if (Rm.nextD k n d).length = 0 then 4 else 0)]) ∧ Below w.heap.size w w' := by
  refine (Next_ok (sd d) n (96 + k) w hn1 hn2 (by rw [sd_size]; exact hl) hL (by omega) (fun i => ?_)).mono ?_
  · rw [sd_size, sd_at (Nat.mod_lt _ h0) (fun x hx => by have := hd x hx; omega), getD_lt (Nat.mod_lt _ h0)]
    have := hd _ (List.getElem_mem (Nat.mod_lt i h0))
    omega
  · rintro e w1 ⟨⟨r, hr, rfl⟩, hb⟩
    have := hr.unique (next_sd h1 h8 h0 hd)
    subst this
    rw [sd_size]
    exact ⟨rfl, hb⟩
theorem lyn_a : LynS (sd [0]) := by
  unfold LynS
  rw [wd_sd]
  exact ⟨by simp, fun k h1 h2 => by simp at h2; omega⟩
theorem lyn_next {k n : Nat} {d : List Nat} (h1 : 1 ≤ k) (h8 : k ≤ 8) (h0 : 0 < d.length) (hd : ∀ x, x ∈ d → x < k) (hL : LynS (sd d)) (hr : 0 < (Rm.nextD k n d).length) : LynS (sd (Rm.nextD k n d)) :=
  ((next_sd (n := n) h1 h8 h0 hd).lyn hL (by rw [sd_size]; exact hr)).1
theorem run_step {k n f : Nat} {d rest : List Nat} (h : Rm.runD k n f d = some rest) : ∃ f', f = f' + 1 ∧ ((Rm.nextD k n d).length = 0 → rest = Rm.part n d) ∧ (0 < (Rm.nextD k n d).length → ∃ r, Rm.runD k n f' (Rm.nextD k n d) = some r ∧ rest = Rm.part n d ++ r) := by
  cases f with
  | zero => rw [Rm.runD] at h; cases h
  | succ f =>
    refine ⟨f, rfl, fun h0 => ?_, fun h0 => ?_⟩
    · have he := List.eq_nil_of_length_eq_zero h0
      rw [Rm.runD, he] at h
      injection h with h
      exact h.symm
    · cases he : Rm.nextD k n d with
      | nil => rw [he] at h0; simp at h0
      | cons x r =>
        rw [Rm.runD, he] at h
        cases hr : Rm.runD k n f (x :: r) with
        | none => simp [hr] at h
        | some l => simp [hr] at h; exact ⟨l, rfl, h.symm⟩
/-- What holds of the word that stands, and of what is still to come. -/
structure AtWord (k n f : Nat) (d : List Nat) (acc full : List UInt8) : Prop where
  pos : 0 < d.length
  len : d.length ≤ n
  lyn : LynS (sd d)
  low : ∀ x, x ∈ d → x < k
  rest : ∃ r, Rm.runD k n f d = some r ∧ acc ++ wd (sd r) = full
theorem AtWord.next {k n f : Nat} {d : List Nat} {acc full : List UInt8} (h : AtWord k n f d acc full) (h1 : 1 ≤ k) (h8 : k ≤ 8) : ∃ f', f = f' + 1 ∧
    ((Rm.nextD k n d).length = 0 → acc ++ wd (sd (Rm.part n d)) = full) ∧ (0 < (Rm.nextD k n d).length → AtWord k n f' (Rm.nextD k n d) (acc ++ wd (sd (Rm.part n d))) full) := by
  obtain ⟨r, hr, hf⟩ := h.rest
  obtain ⟨f', rfl, e1, e2⟩ := run_step hr
  refine ⟨f', rfl, fun h0 => by rw [← e1 h0]; exact hf, fun h0 => ?_⟩
  obtain ⟨q, hq, rfl⟩ := e2 h0
  refine ⟨h0, Rm.next_len k n d, lyn_next h1 h8 h.pos h.low h.lyn h0, Rm.next_mem h.pos h.low, q, hq, ?_⟩
  rw [← hf, sd_app, List.append_assoc]
set_option maxHeartbeats 1000000 in
theorem line_ok (k n : Nat) (w : World) (h : Rm.Ok k n) (hn2 : n ≤ 200) :
    Calls Try.prog 102 #[.int .i64 (k : Int), .int .i64 (n : Int)] w fun e w' => e = .returned (.string (sd (Rm.lineD k n))) ∧ Below w.heap.size w w' := by
  have h1 := h.k1
  have h8 := h.k8
  have hn1 := h.n1
  obtain ⟨full, hfull⟩ : ∃ l, l = wd (sd (Rm.lineD k n)) := ⟨_, rfl⟩
  have HF := hid hfull
  have HS := hid (show AtWord k n 600 [0] [] full from ⟨by simp, by simp; omega, lyn_a, by simp; omega, _, Rm.run_is h, by rw [hfull]; rfl⟩)
  have hfr := Lib.fresh_isBuilder 83 5 w
  have hb0 := bl_new w (.cells #[.pointer none, .slice none 0 0] 83)
  have HFR := hid hfr
  have HB0 := hid hb0
  clear hfr hb0 hfull h
  obtain ⟨k1, hk1⟩ : ∃ k1, k1 = 97 + k := ⟨_, rfl⟩
  obtain ⟨last, hlast⟩ : ∃ k1, k1 = 96 + k := ⟨_, rfl⟩
  have e1 : (97 : Int) + (k : Int) = (k1 : Int) := by omega
  have e2 : (k1 : Int) - 1 = (last : Int) := by omega
  have hw1 : IntKind.i64.wrap (k1 : Int) = (k1 : Int) := i64_of (by omega) (by omega)
  have hw2 : IntKind.i64.wrap (last : Int) = (last : Int) := i64_of (by omega) (by omega)
  have hw3 : IntKind.u8.wrap (last : Int) = (last : Int) := IntWalk.u8_in _ (by omega)
  have HLA := hid hlast
  clear hk1 hlast
  obtain ⟨sa, hsa⟩ : ∃ sa : ByteArray, sa = ⟨#[97]⟩ := ⟨_, rfl⟩
  go_enter Try.func102, Try.ntmps102
  go_wp2
  go_loopg [7, 8] 601 (fun g x y wr => ∃ acc : List UInt8, acc.length + 200 * g ≤ 120200 ∧ Hid (Lib.IsBuilder 83 5 w.heap.size w.heap.size (Lib.byteCells acc) wr) ∧ Hid (Below w.heap.size w wr) ∧
    ((g = 0 ∧ y = .int .i64 4 ∧ (∃ s, x = .string s) ∧ Hid (acc = full)) ∨ (∃ f d, g = f + 1 ∧ y = .int .i64 0 ∧ x = .string (sd d) ∧ Hid (AtWord k n f d acc full))))
  case atStart => exact ⟨[], by simp, HFR, HB0, .inr ⟨600, [0], rfl, rfl, rfl, HS⟩⟩
  case round =>
    clear HFR HB0 HS
    obtain ⟨acc, hacc, HBU, HBE, hst⟩ := hrel
    have hBw := HBE.out.size
    rcases hst with ⟨hg, rfl, ⟨s, rfl⟩, HA⟩ | ⟨f, d, hg, rfl, rfl, HA⟩
    · have hl : Hid (Lib.IsBuilder 83 5 w.heap.size w.heap.size (Lib.byteCells full) wr) := by rw [← HA.out]; exact HBU
      clear hacc HBU HA
      go_wp2_with fail
      with_reducible refine (Try.build_string w.heap.size w.heap.size full _ hl.out hBw).mono ?_
      rintro e w2 ⟨rfl, hb2⟩
      have HB2 := hid (HBE.out.trans hb2)
      clear hb2 HBE
      go_wp2
      go_ret
      refine ⟨?_, HB2.out⟩
      have : (⟨full.toArray⟩ : ByteArray) = sd (Rm.lineD k n) := wd_inj (by rw [wd_mk]; exact HF.out)
      rw [← this]
      rfl
    · have hs := sd_size d
      have hd0 := HA.out.pos
      have hdn := HA.out.len
      obtain ⟨m1, m2⟩ := mod_eq n d.length
      have hz : ((d.length : Int) == 0) = false := beq_eq_false_iff_ne.2 (by omega)
      have hz' : (d.length : Int) ≠ 0 := by omega
      have hsi : ((sd d).size : Int) = (d.length : Int) := by rw [hs]
      obtain ⟨f', hf', hend, hmore⟩ := HA.out.next h1 h8
      have HEND := hid hend
      have HMORE := hid hmore
      have HNX := hid (fun W => Next_sd k n d W h1 h8 hn1 hn2 hd0 hdn HA.out.lyn HA.out.low)
      have hpart : Rm.part n d = if n % d.length = 0 then d else [] := rfl
      obtain ⟨t, ht⟩ : ∃ t, t = n % d.length := ⟨_, rfl⟩
      have htb : t < d.length := by rw [ht]; exact Nat.mod_lt _ hd0
      rw [← ht] at m1 m2 hpart
      obtain ⟨D, hD⟩ : ∃ D, D = d.length := ⟨_, rfl⟩
      rw [← hD] at m1 m2 hz hz' htb hs hsi hd0 hdn
      have HD := hid hD
      have hwt : IntKind.i64.wrap (t : Int) = (t : Int) := i64_of (by omega) (by omega)
      clear ht hend hmore hD HA
      by_cases ht0 : t = 0
      · have e0 : ((t : Int) == 0) = true := by rw [ht0]; rfl
        rw [if_pos ht0] at hpart
        have HP := hid hpart
        have HG := hid hg
        have HF' := hid hf'
        have HACC := hid hacc
        have hnb : Hid (Lib.byteCells acc ++ Lib.strCells (sd d) = Lib.byteCells (acc ++ wd (sd d))) := by
          show _ = _
          rw [Lib.strCells_eq, ← Lib.byteCells_append]
          rfl
        clear ht0 hpart hg hf' hacc
        go_wp2_with fail
        with_reducible refine (Try.build_write w.heap.size w.heap.size _ (sd d) _ HBU.out (by rw [Lib.byteCells_length]; have := HACC.out; omega) hBw).mono ?_
        rw [hnb.out]
        rintro e3 w2 ⟨rfl, h2, hb2⟩
        have H2 := hid (isb h2)
        have HB2 := hid (HBE.out.trans hb2)
        clear h2 hb2 HBE HBU
        go_wp2_with fail
        rw [HLA.out]
        with_reducible refine (HNX.out _).mono ?_
        rw [← HLA.out]
        rintro e3 w3 ⟨rfl, hb3⟩
        have H3 := hid (isb_below H2.out hb3)
        have HB3 := hid (bl_then HB2.out hb3)
        clear hb3 H2 HB2 HNX
        have hl2 : (acc ++ wd (sd d)).length = acc.length + D := by rw [List.length_append, wd_len, hs]
        have HL2 := hid hl2
        clear hl2
        by_cases hn0 : (Rm.nextD k n d).length = 0
        · rw [if_pos hn0]
          have HE := hid (HEND.out hn0)
          clear hn0 HMORE HEND
          generalize sd (Rm.nextD k n d) = s2
          go_wp2
          go_roundg 0
          case measure => have := HG.out; omega
          case rel =>
            refine ⟨acc ++ wd (sd d), by have := HACC.out; have := HL2.out; have := HG.out; omega, H3, HB3, .inl ⟨rfl, rfl, ⟨_, rfl⟩, hid ?_⟩⟩
            have := HE.out
            rw [HP.out] at this
            exact this
        · rw [if_neg hn0]
          have hm := HMORE.out (by omega)
          rw [HP.out] at hm
          have HM := hid hm
          clear hn0 HMORE HEND hm
          generalize Rm.nextD k n d = d2 at *
          go_wp2
          go_roundg (f' + 1)
          case measure => have := HG.out; have := HF'.out; omega
          case rel =>
            exact ⟨acc ++ wd (sd d), by have := HACC.out; have := HL2.out; have := HG.out; have := HF'.out; omega, H3, HB3, .inr ⟨f', d2, rfl, rfl, rfl, HM⟩⟩
      · have e0 : ((t : Int) == 0) = false := beq_eq_false_iff_ne.2 (by omega)
        rw [if_neg ht0] at hpart
        have HP := hid hpart
        have HG := hid hg
        have HF' := hid hf'
        have HACC := hid hacc
        clear ht0 hpart hg hf' hacc
        go_wp2_with fail
        rw [HLA.out]
        with_reducible refine (HNX.out _).mono ?_
        rw [← HLA.out]
        rintro e3 w3 ⟨rfl, hb3⟩
        have H3 := hid (isb_below HBU.out hb3)
        have HB3 := hid (bl_then HBE.out hb3)
        clear hb3 HBU HBE HNX
        by_cases hn0 : (Rm.nextD k n d).length = 0
        · rw [if_pos hn0]
          have HE := hid (HEND.out hn0)
          clear hn0 HMORE HEND
          generalize sd (Rm.nextD k n d) = s2
          go_wp2
          go_roundg 0
          case measure => have := HG.out; omega
          case rel =>
            refine ⟨acc, by have := HACC.out; have := HG.out; omega, H3, HB3, .inl ⟨rfl, rfl, ⟨_, rfl⟩, hid ?_⟩⟩
            have := HE.out
            rw [HP.out, wd_sd, List.map_nil, List.append_nil] at this
            exact this
        · rw [if_neg hn0]
          have hm := HMORE.out (by omega)
          rw [HP.out, wd_sd, List.map_nil, List.append_nil] at hm
          have HM := hid hm
          clear hn0 HMORE HEND hm
          generalize Rm.nextD k n d = d2 at *
          go_wp2
          go_roundg (f' + 1)
          case measure => have := HG.out; have := HF'.out; omega
          case rel =>
            exact ⟨acc, by have := HACC.out; have := HG.out; have := HF'.out; omega, H3, HB3, .inr ⟨f', d2, rfl, rfl, rfl, HM⟩⟩
theorem Line_err (k n : Int) (w : World) (h : ringErr k n ≠ 0) :
    Calls Try.prog 57 #[.int .i64 k, .int .i64 n] w fun e w' => e = .returned (.tuple #[.string ByteArray.empty, .int .i64 (ringErr k n)]) ∧ w = w' := by
  obtain ⟨r, hr⟩ : ∃ r, r = ringErr k n := ⟨_, rfl⟩
  have hc := RCheck_any k n w
  rw [← hr] at h hc ⊢
  have hne : (r == 0) = false := beq_eq_false_iff_ne.2 h
  have hne2 : (r != 0) = true := bne_iff_ne.2 h
  clear hr
  go_enter Try.func57, Try.ntmps57
  go_wp2_with fail
  with_reducible refine hc.mono ?_
  rintro e w1 ⟨rfl, rfl⟩
  go_wp2
  go_ret2
  exact ⟨rfl, rfl⟩
theorem Line_large (k n : Nat) (w : World) (h : Rm.Ok k n) (hn : 200 < n) :
    Calls Try.prog 57 #[.int .i64 (k : Int), .int .i64 (n : Int)] w fun e w' => e = .returned (.tuple #[.string ByteArray.empty, .int .i64 2]) ∧ w = w' := by
  have hd : decide ((200 : Int) < (n : Int)) = true := decide_eq_true (by omega)
  go_enter Try.func57, Try.ntmps57
  go_wp2_with fail
  with_reducible refine (RCheck_ok k n _ h).mono ?_
  rintro e w1 ⟨rfl, rfl⟩
  go_wp2
  go_ret2
  exact ⟨rfl, rfl⟩
theorem Line_ok (k n : Nat) (w : World) (h : Rm.Ok k n) (hn : n ≤ 200) :
    Calls Try.prog 57 #[.int .i64 (k : Int), .int .i64 (n : Int)] w fun e w' => e = .returned (.tuple #[.string (sd (Rm.lineD k n)), .int .i64 0]) ∧ Below w.heap.size w w' := by
  have hd : decide ((200 : Int) < (n : Int)) = false := decide_eq_false (by omega)
  go_enter Try.func57, Try.ntmps57
  go_wp2_with fail
  with_reducible refine (RCheck_ok k n _ h).mono ?_
  rintro e w1 ⟨rfl, rfl⟩
  go_wp2_with fail
  with_reducible refine (line_ok k n _ h hn).mono ?_
  rintro e w2 ⟨rfl, hb⟩
  go_wp2
  go_ret2
  exact ⟨rfl, hb⟩
end Go.Proofs.Ytapjodbaaejldaa
