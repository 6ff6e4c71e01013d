/-
Several texts of this proof, one behind the other.
-/
import Derived.Test.YtgkagigagcamoaaStabE

/-
The contract of slices.symMergeCmpFunc at []api.Edit, with quillref.BothOf's closure.
-/
namespace Go.Proofs.Ytgkagigagcamoaa
open Go.RowKit

/-- What a merge of [p, m) and [m, q) leaves. -/
def MrgE (w0 : World) (b o n : Nat) (E : Nat → Es.Ev) (p q : Nat) (R : Nat → Nat → Prop) (g : Nat → Nat) (e : Ending) (w' : World) : Prop :=
  e = .returned (.tuple #[]) ∧ ∃ h, St.PI p q g h ∧ St.Srt R p q h ∧ SE w0 b o n E h w'
end Go.Proofs.Ytgkagigagcamoaa


/-
The contract of slices.symMergeCmpFunc at []api.Edit, with quillref.BothOf's closure: the way that calls itself.
-/
namespace Go.Proofs.Ytgkagigagcamoaa
open Go.RowKit

end Go.Proofs.Ytgkagigagcamoaa


/-
The contract of slices.SortStableFunc at []api.Edit, with quillref.BothOf's closure.
-/
namespace Go.Proofs.Ytgkagigagcamoaa
open Go.RowKit

/-- What a stable sort of n edits E 0, E 1, .. leaves. -/
def DoneE (w0 : World) (b o n : Nat) (E : Nat → Es.Ev) (R : Nat → Nat → Prop) (e : Ending) (w' : World) : Prop :=
  e = .returned (.tuple #[]) ∧ ∃ h, St.PI 0 n id h ∧ St.Srt R 0 n h ∧ SE w0 b o n E h w'
end Go.Proofs.Ytgkagigagcamoaa

