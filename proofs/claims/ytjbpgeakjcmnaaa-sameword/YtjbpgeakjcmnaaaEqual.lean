
/-
The contract of slices.Equal at slices of int: it answers whether both rows are the same.
-/
import Derived.Test.YtjbpgeakjcmnaaaBase
namespace Go.Proofs.Ytjbpgeakjcmnaaa
open Go.RowKit

end Go.Proofs.Ytjbpgeakjcmnaaa
