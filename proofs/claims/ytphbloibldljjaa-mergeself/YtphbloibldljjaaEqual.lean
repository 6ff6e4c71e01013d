
/-
The contract of slices.Equal at slices of int: it answers whether both rows are the same.
-/
import Derived.Test.YtphbloibldljjaaBase
namespace Go.Proofs.Ytphbloibldljjaa
open Go.RowKit

end Go.Proofs.Ytphbloibldljjaa
