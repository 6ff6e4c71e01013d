/-
The contract of seek.Put.
-/
import Derived.Test.YtdkdnhbdfcfkkaaDoorFind
import Derived.Test.YtdkdnhbdfcfkkaaDoorReplace
namespace Go.Proofs.YtdkdnhbdfcfkkaaDoor
open Go.RowKit

/-- All places at which p stands in s. -/
def places (s p : ByteArray) : List Nat := Wm.oc (byt s) (byt p) p.size (s.size + 1 - p.size)
theorem fiL_places (s p : ByteArray) : fiL s p = ints (places s p) := rfl
theorem places_mem {s p : ByteArray} (_ : 0 < p.size) {x : Nat} : x ∈ places s p ↔ Stands s p x := by
  unfold places Stands
  rw [Wm.oc_mem]
  constructor
  · rintro ⟨h1, h2⟩; exact ⟨by omega, h2⟩
  · rintro ⟨h1, h2⟩; exact ⟨by omega, h2⟩
theorem places_len {s p : ByteArray} (h0 : 0 < p.size) : (places s p).length ≤ s.size := by
  have := fiL_len (s := s) h0
  rwa [fiL_places, ints_len] at this
/-- The places that Put takes; its text. -/
def taken (s p : ByteArray) : List Nat := Wm.greedy p.size 0 (places s p)
def putS (s p b : ByteArray) : ByteArray := repB s b p.size (places s p)
theorem putS_data (s p b : ByteArray) : (putS s p b).data.toList = Wm.putT s.data.toList b.data.toList p.size 0 (taken s p) := rfl
theorem byt_get {x : ByteArray} {t : Nat} (h : t < x.data.toList.length) : x.data.toList[t] = byt x t := by
  unfold byt
  rw [List.getD_eq_getElem?_getD, List.getElem?_eq_getElem h]
  rfl
theorem here_iff {s p : ByteArray} {a : Nat} : Wm.Here s.data.toList p.data.toList a ↔ Stands s p a := by
  unfold Wm.Here Stands
  rw [size_list, size_list]
  constructor
  · rintro ⟨h1, h2⟩
    refine ⟨h1, fun t ht => ?_⟩
    have e : ((s.data.toList.drop a).take p.size)[t]? = p.data.toList[t]? := by rw [h2]
    rw [List.getElem?_take, if_pos ht, List.getElem?_drop, List.getElem?_eq_getElem (by rw [size_list]; omega), List.getElem?_eq_getElem (by rw [size_list]; exact ht), byt_get, byt_get] at e
    exact (Option.some.inj e).symm
  · rintro ⟨h1, h2⟩
    refine ⟨h1, List.ext_getElem (by rw [List.length_take, List.length_drop, size_list, size_list]; omega) fun t h3 h4 => ?_⟩
    rw [size_list] at h4
    rw [List.getElem_take, List.getElem_drop, byt_get, byt_get, h2 t h4]
theorem taken_ch {s p : ByteArray} (h0 : 0 < p.size) : Wm.Ch s.data.toList p.data.toList 0 (taken s p) := by
  unfold taken
  rw [← size_list p]
  exact Wm.greedy_ch (Nat.zero_le _) fun x hx => here_iff.2 ((places_mem h0).1 hx)

/-- The three answers of Put where all is well. -/
def PutOk (s p b : ByteArray) (w : World) (e : Ending) (w' : World) : Prop :=
  e = .returned (.tuple #[.string (putS s p b), .int .i64 ((taken s p).length : Nat), .int .i64 0]) ∧ Below w.heap.size w w'
def PutNo (x : Int) (w : World) (e : Ending) (w' : World) : Prop :=
  e = .returned (.tuple #[.string ByteArray.empty, .int .i64 0, .int .i64 x]) ∧ Below w.heap.size w w'

theorem Put_ok (s p b : ByteArray) (w : World) (hs : s.size ≤ 200) (hp : p.size ≤ 200) (h0 : 0 < p.size) (hb : b.size ≤ 200) :
    Calls Tryd.prog 6 #[.string s, .string p, .string b] w (PutOk s p b w) := by
  have hpl := places_len (s := s) h0
  have hx : ∀ x, x ∈ places s p → x + p.size ≤ s.size := fun x hx => ((places_mem h0).1 hx).1
  have HX := hid hx
  clear hx
  go_enter Tryd.func6, Tryd.ntmps6
  go_wp2_with fail
  with_reducible refine (Find_ok s p _ hs hp h0).mono ?_
  rw [fiL_places, ints_len]
  rintro e w1 ⟨A, c, rfl, hrow, hbel⟩
  have HR := hid hrow
  clear hrow
  go_wp2_with fail
  with_reducible refine (check_ok b _ hb).mono ?_
  rintro e w1' ⟨rfl, rfl⟩
  go_wp2_with fail
  with_reducible refine (replace_any s b p.size (places s p) A c _ hs hb (by omega) hp (by omega) HX.out HR.out).mono ?_
  rintro e w2 ⟨rfl, hb2⟩
  have hfin := hid (bl_then hbel hb2)
  clear hbel hb2
  go_wp2
  go_ret3
  exact ⟨rfl, hfin.out⟩
theorem Put_large (s p b : ByteArray) (w : World) (hs : s.size ≤ 200) (hp : p.size ≤ 200) (h0 : 0 < p.size) (hb : 200 < b.size) :
    Calls Tryd.prog 6 #[.string s, .string p, .string b] w (PutNo 2 w) := by
  go_enter Tryd.func6, Tryd.ntmps6
  go_wp2_with fail
  with_reducible refine (Find_ok s p _ hs hp h0).mono ?_
  rintro e w1 ⟨A, c, rfl, hrow, hbel⟩
  clear hrow
  go_wp2_with fail
  with_reducible refine (check_large b _ hb).mono ?_
  rintro e w1' ⟨rfl, rfl⟩
  go_wp2
  go_ret3
  exact ⟨rfl, hbel⟩
theorem Put_err (s p b : ByteArray) (w : World) (h : findErr s p ≠ 0) :
    Calls Tryd.prog 6 #[.string s, .string p, .string b] w (PutNo (findErr s p) w) := by
  have hx : (findErr s p != 0) = true := by simp [h]
  have HE := hid h
  clear h
  go_enter Tryd.func6, Tryd.ntmps6
  go_wp2_with fail
  with_reducible refine (Find_err s p _ HE.out).mono ?_
  rintro e w1 ⟨rfl, hb1⟩
  go_wp2
  go_ret3
  exact ⟨rfl, hb1⟩

/-- In its own place nothing changes. -/
theorem putS_self {s p : ByteArray} (h0 : 0 < p.size) : putS s p p = s := by
  have h := Wm.put_self (taken_ch (s := s) h0)
  rw [size_list, List.drop_zero] at h
  have e : (putS s p p).data.toList = s.data.toList := by rw [putS_data, h]
  cases hq : putS s p p
  cases s
  rw [hq] at e
  simp at e
  simp [e]
theorem putS_size {s p b : ByteArray} (h0 : 0 < p.size) : (putS s p b).size + (taken s p).length * p.size = s.size + (taken s p).length * b.size := by
  have h := Wm.put_len (B := b.data.toList) (taken_ch (s := s) h0)
  rw [size_list, size_list, size_list] at h
  rw [← size_list (putS s p b), putS_data]
  omega
theorem taken_len {s p : ByteArray} (h0 : 0 < p.size) : (taken s p).length * p.size ≤ s.size := by
  have h := Wm.ch_count (taken_ch (s := s) h0)
  rw [size_list, size_list] at h
  omega
end Go.Proofs.YtdkdnhbdfcfkkaaDoor
