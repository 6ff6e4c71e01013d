
/-
The contract of slices.Equal at slices of int: it answers whether both rows are the same.
-/
import Derived.Test.YtpifmahnlapdbaaBase
namespace Go.Proofs.Ytpifmahnlapdbaa
open Go.RowKit

end Go.Proofs.Ytpifmahnlapdbaa
