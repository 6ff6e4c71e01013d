
/-
The contract of slices.Equal at slices of int: it answers whether both rows are the same.
-/
import Derived.Test.YtejcijlmpiiffaaBase
namespace Go.Proofs.Ytejcijlmpiiffaa
open Go.RowKit

end Go.Proofs.Ytejcijlmpiiffaa
