
/-
One string behind another; the empty string.
-/
import Derived.Test.YtgkagigagcamoaaSeg6
import Derived.Test.YtgkagigagcamoaaMathAll
namespace Go.Proofs.Ytgkagigagcamoaa

theorem size_app (a b : ByteArray) : (a ++ b).size = a.size + b.size := ByteArray.size_append
theorem byt_app (a b : ByteArray) (i : Nat) : byt (a ++ b) i = Wm.cat (byt a) a.size (byt b) i := by
  unfold byt Wm.cat
  rw [ByteArray.data_append, Array.toList_append, List.getD_eq_getElem?_getD, List.getElem?_append, size_list]
  split
  · show _ = a.data.toList.getD i 0
    rw [List.getD_eq_getElem?_getD]
  · show _ = b.data.toList.getD (i - a.size) 0
    rw [List.getD_eq_getElem?_getD]
theorem empty_of {s : ByteArray} (h : s.size = 0) : s = ByteArray.empty := by
  rw [str_eq']
  exact ⟨h, fun i hi => by omega⟩

theorem list_eq {a b : ByteArray} : a.toList = b.toList ↔ a = b := by rw [str_eq, str_eq']
theorem list_nil {a : ByteArray} : a.toList = [] ↔ a.size = 0 := by
  rw [ByteArray.toList_eq, ← size_list]
  exact List.length_eq_zero_iff.symm
end Go.Proofs.Ytgkagigagcamoaa
