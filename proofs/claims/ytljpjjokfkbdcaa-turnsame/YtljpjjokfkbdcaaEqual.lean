/-
The contract of slices.Equal at slices of int: it answers whether both rows are the same.
-/
import Derived.Test.YtljpjjokfkbdcaaBase
namespace Go.Proofs.Ytljpjjokfkbdcaa
open Go.RowKit

end Go.Proofs.Ytljpjjokfkbdcaa
