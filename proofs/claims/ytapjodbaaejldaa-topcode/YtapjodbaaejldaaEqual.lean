
/-
The contract of slices.Equal at slices of int: it answers whether both rows are the same.
-/
import Derived.Test.YtapjodbaaejldaaBase
namespace Go.Proofs.Ytapjodbaaejldaa
open Go.RowKit

end Go.Proofs.Ytapjodbaaejldaa
