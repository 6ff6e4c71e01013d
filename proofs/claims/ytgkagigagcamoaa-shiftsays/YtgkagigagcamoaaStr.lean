
/-
Strings as bytes: parts of them, and when two are the same.
-/
import Derived.Test.YtgkagigagcamoaaBase
namespace Go.Proofs.Ytgkagigagcamoaa
theorem size_list (s : ByteArray) : s.data.toList.length = s.size := by cases s; rfl
theorem ext_data (s : ByteArray) (a b : Nat) : (s.extract a b).data.toList = (s.data.toList.drop a).take (b - a) := by
  rw [ByteArray.data_extract, Array.toList_extract, List.extract_eq_take_drop]
theorem size_ext (s : ByteArray) (a b : Nat) : (s.extract a b).size = min b s.size - a := by
  rw [← size_list, ext_data, List.length_take, List.length_drop, size_list]; omega
theorem byt_ext {s : ByteArray} {a b i : Nat} (h : i < b - a) : byt (s.extract a b) i = byt s (a + i) := by
  unfold byt
  rw [ext_data, List.getD_eq_getElem?_getD, List.getD_eq_getElem?_getD, List.getElem?_take, if_pos h, List.getElem?_drop]
/-- Two strings are the same just if they have as many bytes, and the same ones. -/
theorem str_eq {a b : ByteArray} : a.toList = b.toList ↔ (a.size = b.size ∧ ∀ i, i < a.size → byt a i = byt b i) := by
  rw [ByteArray.toList_eq, ByteArray.toList_eq, ← size_list a, ← size_list b]
  constructor
  · intro h; unfold byt; rw [h]; exact ⟨rfl, fun _ _ => rfl⟩
  · rintro ⟨h1, h2⟩
    apply List.ext_getElem h1
    intro i hi hj
    have := h2 i hi
    unfold byt at this
    rw [List.getD_eq_getElem?_getD, List.getD_eq_getElem?_getD, List.getElem?_eq_getElem hi, List.getElem?_eq_getElem hj] at this
    exact this
theorem str_eq' {a b : ByteArray} : a = b ↔ (a.size = b.size ∧ ∀ i, i < a.size → byt a i = byt b i) := by
  rw [← str_eq, ByteArray.toList_eq, ByteArray.toList_eq]
  constructor
  · intro h; rw [h]
  · intro h; cases a; cases b; simp at h; simp [h]
/-- The bool that '==' on strings gives. -/
theorem beq_true {a b : ByteArray} (h : a.size = b.size ∧ ∀ i, i < a.size → byt a i = byt b i) : (a.toList == b.toList) = true := beq_iff_eq.2 (str_eq.2 h)
theorem beq_false {a b : ByteArray} (h : ¬ (a.size = b.size ∧ ∀ i, i < a.size → byt a i = byt b i)) : (a.toList == b.toList) = false := beq_eq_false_iff_ne.2 fun e => h (str_eq.1 e)
end Go.Proofs.Ytgkagigagcamoaa
