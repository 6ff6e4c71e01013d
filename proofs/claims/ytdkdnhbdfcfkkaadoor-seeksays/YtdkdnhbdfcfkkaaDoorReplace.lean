/-
The contract of seek.replace: by in the place of m bytes at each place that is taken.
-/
import Derived.Test.YtdkdnhbdfcfkkaaDoorStr
import Derived.Test.YtdkdnhbdfcfkkaaDoorBuild
import Derived.Test.YtdkdnhbdfcfkkaaDoorPutMath
namespace Go.Proofs.YtdkdnhbdfcfkkaaDoor
open Go.RowKit

/-- The numbers of a list. -/
def ints (L : List Nat) : List Int := L.map fun (d : Nat) => (d : Int)
theorem ints_get {L : List Nat} {k : Nat} (h : k < L.length) : (ints L).getD k 0 = ((L[k] : Nat) : Int) := by
  unfold ints
  rw [List.getD_eq_getElem?_getD, List.getElem?_map, List.getElem?_eq_getElem h]
  rfl
theorem ints_len (L : List Nat) : (ints L).length = L.length := by unfold ints; exact List.length_map _
/-- The text that seek.replace makes, and how often it replaces. -/
def repB (s b : ByteArray) (m : Nat) (L : List Nat) : ByteArray := ⟨(Wm.putT s.data.toList b.data.toList m 0 (Wm.greedy m 0 L)).toArray⟩

theorem isb {T e : TypeId} {B b : Nat} {bs : List Value} {w : World} (h : Lib.BuilderAt T e B b (.pointer (some ⟨b, 0, none⟩)) bs w) : Lib.IsBuilder T e B b bs w := Or.inr h

set_option maxHeartbeats 1000000 in
theorem replace_any (s by_ : ByteArray) (m : Nat) (L : List Nat) (A : Option Addr) (c : Nat) (w : World) (hs : s.size ≤ 200) (hb : by_.size ≤ 200) (hm1 : 1 ≤ m) (hm : m ≤ 200) (hL : L.length ≤ 200) (hx : ∀ x, x ∈ L → x + m ≤ s.size) (hrow : IRow w A L.length (fun k => (ints L).getD k 0)) :
    Calls Tryd.prog 17 #[.string s, .slice A L.length c, .int .i64 m, .string by_] w fun e w' => e = .returned (.tuple #[.string (repB s by_ m L), .int .i64 (Wm.greedy m 0 L).length]) ∧ Below w.heap.size w w' := by
  have HR := hid hrow
  have HX := hid hx
  have hfr := Lib.fresh_isBuilder 47 5 w
  have hb0 := bl_new w (.cells #[.pointer none, .slice none 0 0] 47)
  have HFR := hid hfr
  have HB0 := hid hb0
  clear hrow hx hfr hb0
  go_enter Tryd.func17, Tryd.ntmps17
  go_wp2
  go_loopw [11, 12, 17] (fun u v x wr => ∃ (e n j : Nat) (acc : List UInt8), j ≤ L.length ∧ e ≤ s.size ∧ n ≤ j ∧ u = .int .i64 e ∧ v = .int .i64 n ∧ x = .int .i64 j ∧ acc.length ≤ 400 * j ∧
    Hid (Lib.IsBuilder 47 5 w.heap.size w.heap.size (Lib.byteCells acc) wr) ∧ Hid (Below w.heap.size w wr) ∧
    Hid (acc ++ Wm.putT s.data.toList by_.data.toList m e (Wm.greedy m e (L.drop j)) = Wm.putT s.data.toList by_.data.toList m 0 (Wm.greedy m 0 L)) ∧ Hid (n + (Wm.greedy m e (L.drop j)).length = (Wm.greedy m 0 L).length)) (fun _ _ x _ => L.length - (intOf x).toNat)
  case atStart => exact ⟨0, 0, 0, [], by omega, by omega, by omega, rfl, rfl, rfl, by simp, HFR.out, HB0.out, by show _ = _; simp, by show _ = _; simp⟩
  case round =>
    clear HFR HB0
    obtain ⟨e, n, j, acc, hj, he, hn, rfl, rfl, rfl, hacc, HBU, HBE, HT, HN⟩ := hrel
    have hBw := HBE.out.size
    by_cases hlt : j < L.length
    · obtain ⟨b, o, rfl, hbl, hc⟩ := HR.out.at_ hlt
      rw [ints_get hlt] at hc
      have hc2 : wr.cell? ⟨b, o + j, none⟩ = some (.int .i64 ((L[j] : Nat) : Int)) := (HBE.out.cell (p := ⟨b, o + j, none⟩) hbl).trans hc
      have hxm := HX.out L[j] (List.getElem_mem hlt)
      have hdr : L.drop j = L[j] :: L.drop (j + 1) := List.drop_eq_getElem_cons hlt
      have ht := HT.out
      have hn2 := HN.out
      rw [hdr, Wm.greedy] at ht hn2
      obtain ⟨a, ha⟩ : ∃ a, a = L[j] := ⟨_, rfl⟩
      rw [← ha] at hc2 hxm ht hn2
      have hlt' : (j : Int) < (L.length : Int) := by omega
      clear hdr hc ha hbl
      by_cases hae : a < e
      · rw [if_pos hae] at ht hn2
        have HT2 := hid ht
        have HN2 := hid hn2
        have hd : decide ((a : Int) < (e : Int)) = true := by simp; omega
        clear ht hn2
        go_wp2
        go_roundw
        case rel => exact ⟨e, n, j + 1, acc, by omega, he, by omega, rfl, rfl, by go_num, by omega, HBU.out, HBE.out, HT2.out, HN2.out⟩
        case measure => simp [intOf]; omega
      · rw [if_neg hae] at ht hn2
        rw [Wm.putT] at ht
        have hd : decide ((a : Int) < (e : Int)) = false := by simp; omega
        have hea : (e : Int) ≤ (a : Int) := by omega
        have has : (a : Int) ≤ (s.size : Int) := by omega
        have hz1 : (s.extract e a).size = a - e := by rw [size_ext]; omega
        have hnext : Lib.byteCells acc ++ Lib.strCells (s.extract e a) ++ Lib.strCells by_ = Lib.byteCells (acc ++ (s.data.toList.drop e).take (a - e) ++ by_.data.toList) := by
          rw [Lib.strCells_eq, Lib.strCells_eq, ext_data, ← Lib.byteCells_append, ← Lib.byteCells_append]
        have HT2 : Hid ((acc ++ (s.data.toList.drop e).take (a - e) ++ by_.data.toList) ++ Wm.putT s.data.toList by_.data.toList m (a + m) (Wm.greedy m (a + m) (L.drop (j + 1))) = Wm.putT s.data.toList by_.data.toList m 0 (Wm.greedy m 0 L)) := by
          show _ = _
          rw [← ht]
          simp only [List.append_assoc]
        have HN2 : Hid (n + 1 + (Wm.greedy m (a + m) (L.drop (j + 1))).length = (Wm.greedy m 0 L).length) := by
          show _ = _
          rw [← hn2, List.length_cons]
          omega
        have hacc2 : (acc ++ (s.data.toList.drop e).take (a - e) ++ by_.data.toList).length ≤ 400 * (j + 1) := by
          rw [List.length_append, List.length_append, List.length_take, List.length_drop, size_list, size_list]
          omega
        have HNX := hid hnext
        have HA2 := hid hacc2
        clear ht hn2 hnext hacc2 HT HN
        go_wp2_with fail
        with_reducible refine (Tryd.build_write w.heap.size w.heap.size _ (s.extract e a) _ HBU.out (by rw [Lib.byteCells_length]; omega) hBw).mono ?_
        rintro e1 w2 ⟨rfl, h2, hb2⟩
        have H2 := hid (isb h2)
        have hb2' := HBE.out.trans hb2
        have HB2 := hid hb2'
        have hBw2 := hb2'.size
        clear h2 hb2 hb2' HBU HBE
        go_wp2_with fail
        with_reducible refine (Tryd.build_write w.heap.size w.heap.size _ by_ _ H2.out (by rw [List.length_append, Lib.byteCells_length, Lib.strCells_length]; omega) hBw2).mono ?_
        rw [HNX.out]
        rintro e1 w3 ⟨rfl, h3, hb3⟩
        have H3 := hid (isb h3)
        have HB3 := hid (HB2.out.trans hb3)
        clear h3 hb3 HB2
        go_wp2
        go_roundw
        case rel => exact ⟨a + m, n + 1, j + 1, _, by omega, by omega, by omega, by go_num, by go_num, by go_num, HA2.out, H3.out, HB3.out, HT2, HN2⟩
        case measure => simp [intOf]; omega
    · obtain rfl : j = L.length := by omega
      have ht := HT.out
      have hn2 := HN.out
      rw [List.drop_of_length_le (Nat.le_refl _), Wm.greedy] at ht hn2
      rw [Wm.putT] at ht
      rw [List.length_nil, Nat.add_zero] at hn2
      have hnx : Lib.byteCells acc ++ Lib.strCells (s.extract e s.size) = Lib.byteCells (acc ++ s.data.toList.drop e) := by
        rw [Lib.strCells_eq, ext_data, ← Lib.byteCells_append, List.take_of_length_le (by rw [List.length_drop, size_list]; omega)]
      rw [ht] at hnx
      have HNX := hid hnx
      have HN2 := hid hn2
      have hz1 : (s.extract e s.size).size ≤ 200 := by rw [size_ext]; omega
      have hes : (e : Int) ≤ (s.size : Int) := by omega
      clear ht hn2 hnx HT HN
      go_wp2_with fail
      with_reducible refine (Tryd.build_write w.heap.size w.heap.size _ (s.extract e s.size) _ HBU.out (by rw [Lib.byteCells_length]; omega) hBw).mono ?_
      rw [HNX.out]
      rintro e1 w2 ⟨rfl, h2, hb2⟩
      have H2 := hid (isb h2)
      have hb2' := HBE.out.trans hb2
      have HB2 := hid hb2'
      have hBw2 := hb2'.size
      clear h2 hb2 hb2' HBU HBE
      go_wp2_with fail
      with_reducible refine (Tryd.build_string w.heap.size w.heap.size _ _ H2.out hBw2).mono ?_
      rintro e1 w3 ⟨rfl, hb3⟩
      have HB3 := hid (HB2.out.trans hb3)
      clear hb3 HB2
      go_wp2
      go_ret2
      exact ⟨by rw [HN2.out]; rfl, HB3.out⟩
end Go.Proofs.YtdkdnhbdfcfkkaaDoor
