
/-
The contract of slices.Equal at slices of int: it answers whether both rows are the same.
-/
import Derived.Test.YtgkagigagcamoaaBase
namespace Go.Proofs.Ytgkagigagcamoaa
open Go.RowKit

end Go.Proofs.Ytgkagigagcamoaa
