/-
Several texts of this proof, one behind the other.
-/
import Derived.Test.YtgkagigagcamoaaEdCk
import Derived.Test.YtgkagigagcamoaaBuildK

/-
The contract of edit.Apply.
-/
namespace Go.Proofs.Ytgkagigagcamoaa
open Go.RowKit

/-- The block of a struct variable that holds an edit. -/
def EvBlk (w : World) (b : Nat) (x : Es.Ev) : Prop := w.heap[b]? = some (.cells #[.int .i64 x.a, .int .i64 x.d, .string x.s] 59)
theorem EvBlk.new (w : World) (x : Es.Ev) (N : Nat) (hN : w.heap.size = N) : EvBlk (w.alloc (.cells #[.int .i64 x.a, .int .i64 x.d, .string x.s] 59)) N x := by
  subst hN
  exact heap_alloc_new w _
theorem EvBlk.cells {w : World} {b : Nat} {x : Es.Ev} (h : EvBlk w b x) : w.cell? ⟨b, 0, none⟩ = some (.int .i64 x.a) ∧ w.cell? ⟨b, 1, none⟩ = some (.int .i64 x.d) ∧ w.cell? ⟨b, 2, none⟩ = some (.string x.s) := by
  refine ⟨?_, ?_, ?_⟩ <;> (rw [cell_of_row _ _ _ _ _ _ h]; rfl)
theorem EvBlk.others {w w' : World} {b N : Nat} {x : Es.Ev} (h : EvBlk w b x) (hk : Lib.OthersKept 5 (some N) w w') (hb : b ≠ N) : EvBlk w' b x :=
  hk b _ h (fun e => hb (Option.some.inj e)) (fun c fz e => by
    injection e with _ e
    exact absurd e (by decide))
/-- The builder holds l. -/
def EBl (N : Nat) (l : List UInt8) (w : World) : Prop := Lib.IsBuilderF 89 5 N N (Lib.byteCells l) w
theorem cells_lst (l : List UInt8) (s : ByteArray) : Lib.byteCells l ++ Lib.strCells s = Lib.byteCells (l ++ lst s) := by
  unfold Lib.strCells Lib.byteCells
  rw [List.map_append]
  rfl
theorem EBl.new (w : World) : EBl w.heap.size [] (w.alloc (.cells #[.pointer none, .slice none 0 0] 89)) := Lib.IsBuilderF.of (Lib.fresh_isBuilder 89 5 w)
theorem EBl.alloc {N : Nat} {l : List UInt8} {w : World} (h : EBl N l w) (o : Obj) : EBl N l (w.alloc o) := Lib.IsBuilderF.alloc h o
theorem EBl.write {N : Nat} {l : List UInt8} {w : World} (s : ByteArray) (h : EBl N l w) (hl : l.length + s.size ≤ 1000000) (hN : N ≤ w.heap.size) :
    Calls Try.prog 56 #[.pointer (some ⟨N, 0, none⟩), .string s] w fun e w' => e = .returned (.tuple #[.int .i64 s.size, .nilIface]) ∧ EBl N (l ++ lst s) w' ∧ Below N w w' ∧ Lib.OthersKept 5 (some N) w w' := by
  refine (build_writek N N (Lib.byteCells l) s w h (by rw [Lib.byteCells_length]; omega) hN).mono ?_
  rw [cells_lst]
  rintro e w' ⟨rfl, h1, h2, h3⟩
  exact ⟨rfl, h1, h2, h3⟩
theorem EBl.read {N : Nat} {l : List UInt8} {w : World} (h : EBl N l w) (hN : N ≤ w.heap.size) :
    Calls Try.prog 57 #[.pointer (some ⟨N, 0, none⟩)] w fun e w' => e = .returned (.string (mkS l)) ∧ Below N w w' := by
  refine (build_stringk N N l w h hN).mono ?_
  rintro e w' ⟨rfl, h1, _⟩
  exact ⟨rfl, h1⟩
set_option maxHeartbeats 2000000 in
theorem Apply_any {A : Option Addr} {n c : Nat} {h : Nat → Es.Ev} (s : ByteArray) (w : World) (hr : EvRow w A n h) (hw : ∀ k, k < n → EvWf (h k)) (hn : n ≤ maxLen) (hs : s.size ≤ maxLen) :
    Calls Try.prog 35 #[.string s, .slice A n c] w fun e w' => ∃ (t : ByteArray) (x : Int), e = .returned (.tuple #[.string t, .int .i64 x]) ∧ ApIs s (el h n) t x ∧ Below w.heap.size w w' := by
  have hs2 : (s.size : Int) ≤ 9223372036854775807 := by unfold maxLen at hs; omega
  have hC := Check_any (c := c) (s.size : Int) w hr hw hn (by omega) hs2
  have H := hid hr
  clear hr hw hn hs hs2
  by_cases hE : Es.eErr (s.size : Int) (el h n) = 0
  · obtain ⟨G, q, hS⟩ := Es.scr_of (s := lst s) (by rw [lst_len]; exact hE)
    obtain ⟨hn20, hs200, _⟩ := scr_small hS
    have hlen := hS.len
    rw [el_len] at hlen
    rw [hE] at hC
    have HS := hid hS
    have HLEN := hid hlen
    have HTO := hid hS.to_
    have HST0 : Hid (Es.St (lst s) (el h n) G q 0 []) := hS.st
    have HL0 : Hid ([] ++ Es.dst (G.drop 0) q = Es.dst G q) := by show _ = _; rw [List.nil_append, List.drop_zero]
    clear hS hlen hE
    go_enter Try.func35, Try.ntmps35
    go_wp2_with fail
    with_reducible refine hC.mono ?_
    rintro e w1 ⟨rfl, hb1⟩
    have HFR := hid (EBl.new w1)
    have HB0 := hid (bl_then hb1 (bl_new w1 (.cells #[.pointer none, .slice none 0 0] 89)))
    have HR1 := hid (H.out.keep hb1)
    have HBW := hid hb1
    have HBN := hid (bl_new w1 (.cells #[.pointer none, .slice none 0 0] 89))
    clear hC hb1 H
    go_wp2
    go_loopw [8, 20] (fun v x wr => ∃ k : Nat, ∃ P l : List UInt8, k ≤ n ∧ x = .int .i64 (k : Int) ∧ v = .int .i64 ((P.length : Nat) : Int) ∧ Hid (Es.St (lst s) (el h n) G q k P) ∧ Hid (l ++ Es.dst (G.drop k) q = Es.dst G q) ∧ Hid (EBl w1.heap.size l wr) ∧ Hid (Below w1.heap.size w1 wr) ∧ Hid (w1.heap.size < wr.heap.size)) (fun _ x _ => n - (intOf x).toNat)
    case atStart => exact ⟨0, [], [], by omega, rfl, rfl, HST0, HL0, HFR, HBN, by show _ < _; simp⟩
    case round =>
      clear HST0 HL0 HFR HBN HB0
      obtain ⟨k, P, l, hk, rfl, rfl, HST, HL, HU, HB, HLT⟩ := hrel
      have hlt1 := HLT.out
      have hle1 : w1.heap.size ≤ wr.heap.size := Nat.le_of_lt hlt1
      have hll : l.length ≤ 200 := by
        have h1 := congrArg List.length HL.out
        have h2 := HTO.out
        rw [List.length_append] at h1
        omega
      by_cases hkn : k < n
      · obtain ⟨b, o, rfl, hlt, c0, c1, c2⟩ := (HR1.out.keep HB.out) k hkn
        have hkn' : (k : Int) < (n : Int) := by omega
        obtain ⟨g, hgG, hGd, hx, hst2, e1, e2, e3⟩ := HST.out.next (by have := HLEN.out; omega)
        rw [el_at hkn] at hx
        rw [lst_len] at e3
        have hi40 : g.i.length ≤ 40 := Es.gd_mem HS.out.good g hgG
        obtain ⟨p, hp⟩ : ∃ p, p = P.length := ⟨_, rfl⟩
        obtain ⟨a, ha⟩ : ∃ a, a = P.length + g.p.length := ⟨_, rfl⟩
        obtain ⟨d, hd⟩ : ∃ d, d = g.d.length := ⟨_, rfl⟩
        obtain ⟨y, hy⟩ : ∃ y, y = mkS g.i := ⟨_, rfl⟩
        have hys : y.size ≤ 40 := by rw [hy, mk_size]; exact hi40
        have hpa : p ≤ a := by omega
        have hads : a + d ≤ s.size := by omega
        rw [← ha, ← hd, ← hy] at hx
        rw [hx] at c0 c1 c2
        have hq1 : lst (s.extract p a) = g.p := by rw [lst_mid, hp, ha, Nat.add_sub_cancel_left]; exact e1
        have HST2 := hid hst2
        have HPL : Hid (((P ++ g.p ++ g.d).length : Nat) = a + d) := by show _ = _; rw [List.length_append, List.length_append, ha, hd]
        have HL2 : Hid (l ++ lst (s.extract p a) ++ lst y ++ Es.dst (G.drop (k + 1)) q = Es.dst G q) := by
          show _ = _
          rw [hq1, hy, lst_mk, ← HL.out, hGd, Es.dst_step]
        have hz1 : (s.extract p a).size ≤ 200 := by rw [size_ext]; omega
        rw [← hp]
        have hadw : IntKind.i64.wrap ((a : Int) + (d : Int)) = (a : Int) + (d : Int) := IntWalk.i64_in _ (by omega)
        have hp0 : (0 : Int) ≤ (p : Int) := by omega
        have hpa' : (p : Int) ≤ (a : Int) := by omega
        have has' : (a : Int) ≤ (s.size : Int) := by omega
        have HX := hid (EvBlk.new wr ⟨(a : Int), (d : Int), y⟩ _ rfl)
        obtain ⟨hca0, hca1, hca2⟩ := HX.out.cells
        have HB2 := hid (HB.out.alloc hle1 (.cells #[.int .i64 (a : Int), .int .i64 (d : Int), .string y] 59))
        have HU2 : Hid (EBl w1.heap.size l (wr.alloc (.cells #[.int .i64 (a : Int), .int .i64 (d : Int), .string y] 59))) := HU.out.alloc _
        have hne : wr.heap.size ≠ w1.heap.size := by omega
        have HNE := hid hne
        have hz8 : l.length + (s.extract p a).size ≤ 1000000 := by omega
        have hsz2 : w1.heap.size ≤ (wr.alloc (.cells #[.int .i64 (a : Int), .int .i64 (d : Int), .string y] 59)).heap.size := HB2.out.size
        have hz9 : (l ++ lst (s.extract p a)).length + y.size ≤ 1000000 := by rw [List.length_append, lst_len]; omega
        have HZ8 := hid hz8
        have HZ9 := hid hz9
        have HSZ := hid hsz2
        try simp only at hca0 hca1 hca2 c0 c1 c2
        clear HST HL HU HB HLT hGd hx hst2 e1 e2 e3 hgG hi40 hp ha hd hy hq1 hz1 hne hz8 hz9 hsz2 hys hll hlt1
        go_wp2_with fail
        with_reducible refine (HU2.out.write (s.extract p a) HZ8.out HSZ.out).mono ?_
        rintro e w2 ⟨rfl, hU3, hb3, ho3⟩
        have HX3 := hid (HX.out.others ho3 HNE.out)
        have HU3 := hid hU3
        have HB3 := hid (HB2.out.trans hb3)
        clear hca0 hca1 hca2 hU3 hb3 ho3 HX HU2 HB2
        obtain ⟨hca0, hca1, hca2⟩ := HX3.out.cells
        try simp only at hca0 hca1 hca2
        go_wp2_with fail
        with_reducible refine (HU3.out.write y HZ9.out HB3.out.size).mono ?_
        rintro e w3 ⟨rfl, hU4, hb4, ho4⟩
        have HX4 := hid (HX3.out.others ho4 HNE.out)
        have HU4 := hid hU4
        have HB4 := hid (HB3.out.trans hb4)
        have HLT4 : Hid (w1.heap.size < w3.heap.size) := by
          obtain ⟨hh, _⟩ := Array.getElem?_eq_some_iff.1 HX4.out
          have := HNE.out
          show _ < _
          omega
        clear hca0 hca1 hca2 hU4 hb4 ho4 HX3 HU3 HB3
        obtain ⟨hca0, hca1, hca2⟩ := HX4.out.cells
        try simp only at hca0 hca1 hca2
        go_wp2
        go_roundw
        case rel => exact ⟨k + 1, P ++ g.p ++ g.d, l ++ lst (s.extract p a) ++ lst y, by omega, by go_num, by rw [HPL.out]; rfl, HST2, HL2, HU4, HB4, HLT4⟩
        case measure => simp [intOf]; omega
      · obtain rfl : k = n := by omega
        have hkd : decide ((k : Int) < (k : Int)) = false := decide_eq_false (by omega)
        obtain ⟨p, hp⟩ : ∃ p, p = P.length := ⟨_, rfl⟩
        have hG0 : G.drop k = [] := List.drop_eq_nil_of_le (by have := HLEN.out; omega)
        have hend : (lst s).drop p = q := by
          have := HST.out
          rw [HLEN.out] at this
          rw [hp]; exact this.end_
        have hps : p ≤ s.size := by
          have := congrArg List.length HST.out.s_
          rw [List.length_append, lst_len, ← hp] at this
          omega
        have HL2 : Hid (l ++ lst (s.extract p s.size) = Es.dst G q) := by
          show _ = _
          rw [lst_drop, hend, ← HL.out, hG0]; rfl
        have hz8 : l.length + (s.extract p s.size).size ≤ 1000000 := by rw [size_ext]; omega
        have HZ8 := hid hz8
        have hp0 : (0 : Int) ≤ (p : Int) := by omega
        have hps' : (p : Int) ≤ (s.size : Int) := by omega
        rw [← hp]
        clear HST HL HLT hG0 hend hp hz8 hll hlt1
        go_wp2_with fail
        with_reducible refine (HU.out.write (s.extract p s.size) HZ8.out hle1).mono ?_
        rintro e w2 ⟨rfl, hU3, hb3, ho3⟩
        rw [HL2.out] at hU3
        have HU3 := hid hU3
        have HB3 := hid (HB.out.trans hb3)
        clear hU3 hb3 ho3 HU HB
        go_wp2_with fail
        with_reducible refine (HU3.out.read HB3.out.size).mono ?_
        rintro e w3 ⟨rfl, hb4⟩
        have HB4 := hid (bl_then HBW.out (HB3.out.trans hb4))
        clear hb4 HU3 HB3
        go_wp2
        go_ret2
        exact ⟨_, 0, rfl, .inr ⟨rfl, G, q, HS.out, rfl⟩, HB4.out⟩
  · have hne : (Es.eErr (s.size : Int) (el h n) != 0) = true := bne_iff_ne.2 hE
    obtain ⟨x, hx⟩ : ∃ x, x = Es.eErr (s.size : Int) (el h n) := ⟨_, rfl⟩
    rw [← hx] at hC hne hE
    have HX := hid hx
    have HE := hid hE
    clear hx hE
    go_enter Try.func35, Try.ntmps35
    go_wp2_with fail
    with_reducible refine hC.mono ?_
    rintro e w1 ⟨rfl, hb1⟩
    clear hC
    go_wp2
    go_ret2
    exact ⟨_, x, rfl, .inl ⟨HE.out, HX.out, rfl⟩, hb1⟩
end Go.Proofs.Ytgkagigagcamoaa


/-
The contract of edit.Place.
-/
namespace Go.Proofs.Ytgkagigagcamoaa
open Go.RowKit

/-- What Place answers. -/
def PlaceOut (N : Int) (L : List Es.Ev) (t : Int) (w : World) (e : Ending) (w' : World) : Prop :=
  ∃ (v : Int) (b : Bool) (x : Int), e = .returned (.tuple #[.int .i64 v, .bool b, .int .i64 x]) ∧ PlIs N L t v b x ∧ Below w.heap.size w w'
end Go.Proofs.Ytgkagigagcamoaa


/-
The contract of edit.Undo.
-/
namespace Go.Proofs.Ytgkagigagcamoaa
open Go.RowKit

theorem EvBlk.grown {w w' : World} {b : Nat} {x : Es.Ev} {row : Option Nat} (h : EvBlk w b x) (hg : w.grownBy w' row) (hr : some b ≠ row) : EvBlk w' b x := by
  obtain ⟨hlt, _⟩ := Array.getElem?_eq_some_iff.1 h
  exact (hg.block b hlt hr).trans h
theorem EvBlk.alloc {w : World} {b : Nat} {x : Es.Ev} (h : EvBlk w b x) (o : Obj) : EvBlk (w.alloc o) b x := by
  obtain ⟨hlt, _⟩ := Array.getElem?_eq_some_iff.1 h
  exact (Below.heap_alloc w o b hlt).trans h
end Go.Proofs.Ytgkagigagcamoaa

