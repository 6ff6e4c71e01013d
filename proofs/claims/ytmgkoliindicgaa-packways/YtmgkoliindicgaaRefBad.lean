
/-
The contract of slices.ContainsFunc with the test of quillref.CodesOf: is there a word that is not less, or begins the new one?
-/
import Derived.Test.YtmgkoliindicgaaCRow
import Derived.Test.YtmgkoliindicgaaSortW
import Derived.Test.YtmgkoliindicgaaShelfK
import Derived.Laws.Cover1
namespace Go.Proofs.Ytmgkoliindicgaa
open Go.RowKit

theorem badPre {s p : List UInt8} : Lib.hasPrefix s p = true ↔ p <+: s := by unfold Lib.hasPrefix; exact List.isPrefixOf_iff_prefix
end Go.Proofs.Ytmgkoliindicgaa
