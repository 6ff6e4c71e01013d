
/-
A string's bytes as a list.
-/
import Derived.Test.YtpifmahnlapdbaaStr
namespace Go.Proofs.Ytpifmahnlapdbaa
/-- The bytes of a string. -/
def lst (s : ByteArray) : List UInt8 := s.data.toList
theorem lst_len (s : ByteArray) : (lst s).length = s.size := size_list s
theorem lst_get (s : ByteArray) (k : Nat) : (lst s).getD k 0 = byt s k := rfl
theorem lst_drop (s : ByteArray) (k : Nat) : lst (s.extract k s.size) = (lst s).drop k := by
  unfold lst
  rw [ext_data]
  refine List.take_of_length_le ?_
  rw [List.length_drop, size_list]
  omega
theorem lst_mid (s : ByteArray) (a b : Nat) : lst (s.extract a b) = ((lst s).drop a).take (b - a) := ext_data s a b
end Go.Proofs.Ytpifmahnlapdbaa
