/-
The contract of slices.Equal at slices of int: it answers whether both rows are the same.
-/
import Derived.Test.YtddejiblgodgkaaBase
namespace Go.Proofs.Ytddejiblgodgkaa
open Go.RowKit

end Go.Proofs.Ytddejiblgodgkaa
