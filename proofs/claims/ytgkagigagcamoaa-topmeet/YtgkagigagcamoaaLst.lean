
/-
A string's bytes as a list.
-/
import Derived.Test.YtgkagigagcamoaaSeg6
namespace Go.Proofs.Ytgkagigagcamoaa
/-- The bytes of a string. -/
def lst (s : ByteArray) : List UInt8 := s.data.toList
theorem lst_len (s : ByteArray) : (lst s).length = s.size := size_list s
theorem lst_get (s : ByteArray) (k : Nat) : (lst s).getD k 0 = byt s k := rfl
theorem lst_drop (s : ByteArray) (k : Nat) : lst (s.extract k s.size) = (lst s).drop k := by
  unfold lst
  rw [ext_data]
  refine List.take_of_length_le ?_
  rw [List.length_drop, size_list]
  omega
theorem lst_mid (s : ByteArray) (a b : Nat) : lst (s.extract a b) = ((lst s).drop a).take (b - a) := ext_data s a b
/-- A word as a string. -/
def mkS (l : List UInt8) : ByteArray := ⟨l.toArray⟩
theorem lst_mk (l : List UInt8) : lst (mkS l) = l := by unfold lst mkS; simp
theorem mk_lst (s : ByteArray) : mkS (lst s) = s := by unfold lst mkS; cases s; simp
theorem mk_size (l : List UInt8) : (mkS l).size = l.length := by rw [← lst_len, lst_mk]
theorem mk_cat (a b : List UInt8) : mkS (a ++ b) = mkS a ++ mkS b := by
  have h : lst (mkS (a ++ b)) = lst (mkS a ++ mkS b) := by
    rw [lst_mk]
    unfold lst
    rw [ByteArray.data_append, Array.toList_append]
    show _ = lst (mkS a) ++ lst (mkS b)
    rw [lst_mk, lst_mk]
  rw [← mk_lst (mkS (a ++ b)), h, mk_lst]
theorem lst_cat (a b : ByteArray) : lst (a ++ b) = lst a ++ lst b := by
  unfold lst
  rw [ByteArray.data_append, Array.toList_append]
theorem lst_inj_ {a b : ByteArray} (h : lst a = lst b) : a = b := by rw [← mk_lst a, h, mk_lst]
/-- 'strOfNums' of bytes told as numbers. -/
theorem nums_mk (l : List UInt8) : strOfNums (l.map fun c => (c.toNat : Int)) = mkS l := by
  apply lst_inj_
  rw [lst_mk]
  unfold lst
  rw [strOfNums_data, List.map_map]
  have : ((fun x : Int => x.toNat.toUInt8) ∘ fun c : UInt8 => (c.toNat : Int)) = id := by
    funext c
    simp
  first | (rw [this, List.map_id]) | simp
end Go.Proofs.Ytgkagigagcamoaa
