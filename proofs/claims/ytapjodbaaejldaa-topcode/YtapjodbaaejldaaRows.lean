/-
  No cell of these rows narrows 'for every input' (looked for: loops, veiled, ifaces, maps, wideKeys, modest, calm, conditions, laid).
  DERIVED. THE GIVEN ROWS OF THIS SEAT. 11 by the template 'for every input the law returns true; each argument reads behind the call as it read before'; 0 by the template 'total and deterministic' (their statements: YtapjodbaaejldaaTotals.lean).
  GIVEN WITH THE SEED: the statements are not yours to turn. If you find one false, say at which input.
  Laid BY PROGRAM, IN A SANDBOX (cutbox-rows.mjs): the forced cells as the released guide's own fill.sh prints them over the translation bbf71da95914d371… (all of the seat's roots in one cut). By AI agents, Wed Nov 11 2026. No macro, syntax, notation, axiom, sorry.
-/
import Derived.Test.YtapjodbaaejldaaChecked
import GoSem.Claim
import GoSem.ClaimJoined
import GoSem.ClaimMapViews
import Derived.JoinedTies
import Derived.KernelRfl
namespace Go.Proofs.Ytapjodbaaejldaa
/- THE CELL 'sum', in the pinned program and in every row, IS THE sha256 OF THE DUMP (.gsa) THAT YtapjodbaaejldaaProg.lean LOADS. Nothing in Lean hashes anything: it is a label: what it is worth is what the hold of that sum in a sandbox is worth. -/
noncomputable def Try.pinned : Pinned := { name := "ytapjodbaaejldaa", sum := "bbf71da95914d37143f64d982afb332afe1051877da420eebaae88361c81f9b0", checked := Try.checked }
namespace Rows
def none {H : Type} : Left H := { results := [], args := [] }

/-- 'quilllaw.EditSays': WHATEVER THE INPUT: true; the input reads as it did. -/
def editSaysSpec : ChangeSpec := { name := "editSays", fn := fun _ => fun
  | [d1, d2, d3, d4] => { results := [.lit (.bool true)], args := [d1, d2, d3, d4] }
  | _ => none }
def editSaysRow : OpenClaim := { program := "ytapjodbaaejldaa", sum := "bbf71da95914d37143f64d982afb332afe1051877da420eebaae88361c81f9b0", func := "quillward/quilllaw.EditSays", spec := "editSays", inPlace := ["internal/abi.NoEscape"], unfollowed := true, recurses := true, apart := false }
def EditSaysSaid : Prop := editSaysRow.holds Try.pinned (OpenSpec.ofChange editSaysSpec)

/-- ITS FALSE NEIGHBOUR: 'it returns false'. Refute it at one input. -/
def editSaysWrong : ChangeSpec := { name := "editSays", fn := fun _ => fun
  | [d1, d2, d3, d4] => { results := [.lit (.bool false)], args := [d1, d2, d3, d4] }
  | _ => none }
def EditSaysWrongFalsely : Prop := editSaysRow.holds Try.pinned (OpenSpec.ofChange editSaysWrong)

/-- 'quilllaw.EditBetween': WHATEVER THE INPUT: true; the input reads as it did. -/
def editBetweenSpec : ChangeSpec := { name := "editBetween", fn := fun _ => fun
  | [d1, d2] => { results := [.lit (.bool true)], args := [d1, d2] }
  | _ => none }
def editBetweenRow : OpenClaim := { program := "ytapjodbaaejldaa", sum := "bbf71da95914d37143f64d982afb332afe1051877da420eebaae88361c81f9b0", func := "quillward/quilllaw.EditBetween", spec := "editBetween", apart := false }
def EditBetweenSaid : Prop := editBetweenRow.holds Try.pinned (OpenSpec.ofChange editBetweenSpec)

/-- ITS FALSE NEIGHBOUR: 'it returns false'. Refute it at one input. -/
def editBetweenWrong : ChangeSpec := { name := "editBetween", fn := fun _ => fun
  | [d1, d2] => { results := [.lit (.bool false)], args := [d1, d2] }
  | _ => none }
def EditBetweenWrongFalsely : Prop := editBetweenRow.holds Try.pinned (OpenSpec.ofChange editBetweenWrong)

/-- 'quillkeep.EditUndone': WHATEVER THE INPUT: true; the input reads as it did. -/
def editUndoneSpec : ChangeSpec := { name := "editUndone", fn := fun _ => fun
  | [d1, d2] => { results := [.lit (.bool true)], args := [d1, d2] }
  | _ => none }
def editUndoneRow : OpenClaim := { program := "ytapjodbaaejldaa", sum := "bbf71da95914d37143f64d982afb332afe1051877da420eebaae88361c81f9b0", func := "quillward/quillkeep.EditUndone", spec := "editUndone", inPlace := ["internal/abi.NoEscape"], unfollowed := true, recurses := true, apart := false }
def EditUndoneSaid : Prop := editUndoneRow.holds Try.pinned (OpenSpec.ofChange editUndoneSpec)

/-- ITS FALSE NEIGHBOUR: 'it returns false'. Refute it at one input. -/
def editUndoneWrong : ChangeSpec := { name := "editUndone", fn := fun _ => fun
  | [d1, d2] => { results := [.lit (.bool false)], args := [d1, d2] }
  | _ => none }
def EditUndoneWrongFalsely : Prop := editUndoneRow.holds Try.pinned (OpenSpec.ofChange editUndoneWrong)

/-- 'quillkeep.EditPlaces': WHATEVER THE INPUT: true; the input reads as it did. -/
def editPlacesSpec : ChangeSpec := { name := "editPlaces", fn := fun _ => fun
  | [d1, d2, d3, d4] => { results := [.lit (.bool true)], args := [d1, d2, d3, d4] }
  | _ => none }
def editPlacesRow : OpenClaim := { program := "ytapjodbaaejldaa", sum := "bbf71da95914d37143f64d982afb332afe1051877da420eebaae88361c81f9b0", func := "quillward/quillkeep.EditPlaces", spec := "editPlaces", inPlace := ["internal/abi.NoEscape"], unfollowed := true, recurses := true, apart := false }
def EditPlacesSaid : Prop := editPlacesRow.holds Try.pinned (OpenSpec.ofChange editPlacesSpec)

/-- ITS FALSE NEIGHBOUR: 'it returns false'. Refute it at one input. -/
def editPlacesWrong : ChangeSpec := { name := "editPlaces", fn := fun _ => fun
  | [d1, d2, d3, d4] => { results := [.lit (.bool false)], args := [d1, d2, d3, d4] }
  | _ => none }
def EditPlacesWrongFalsely : Prop := editPlacesRow.holds Try.pinned (OpenSpec.ofChange editPlacesWrong)

/-- 'quillkeep.EditParts': WHATEVER THE INPUT: true; the input reads as it did. -/
def editPartsSpec : ChangeSpec := { name := "editParts", fn := fun _ => fun
  | [d1, d2, d3] => { results := [.lit (.bool true)], args := [d1, d2, d3] }
  | _ => none }
def editPartsRow : OpenClaim := { program := "ytapjodbaaejldaa", sum := "bbf71da95914d37143f64d982afb332afe1051877da420eebaae88361c81f9b0", func := "quillward/quillkeep.EditParts", spec := "editParts", inPlace := ["internal/abi.NoEscape"], apart := false }
def EditPartsSaid : Prop := editPartsRow.holds Try.pinned (OpenSpec.ofChange editPartsSpec)

/-- ITS FALSE NEIGHBOUR: 'it returns false'. Refute it at one input. -/
def editPartsWrong : ChangeSpec := { name := "editParts", fn := fun _ => fun
  | [d1, d2, d3] => { results := [.lit (.bool false)], args := [d1, d2, d3] }
  | _ => none }
def EditPartsWrongFalsely : Prop := editPartsRow.holds Try.pinned (OpenSpec.ofChange editPartsWrong)

/-- 'quillkeep.EditBetweens': WHATEVER THE INPUT: true; the input reads as it did. -/
def editBetweensSpec : ChangeSpec := { name := "editBetweens", fn := fun _ => fun
  | [d1, d2, d3] => { results := [.lit (.bool true)], args := [d1, d2, d3] }
  | _ => none }
def editBetweensRow : OpenClaim := { program := "ytapjodbaaejldaa", sum := "bbf71da95914d37143f64d982afb332afe1051877da420eebaae88361c81f9b0", func := "quillward/quillkeep.EditBetweens", spec := "editBetweens", inPlace := ["internal/abi.NoEscape"], apart := false }
def EditBetweensSaid : Prop := editBetweensRow.holds Try.pinned (OpenSpec.ofChange editBetweensSpec)

/-- ITS FALSE NEIGHBOUR: 'it returns false'. Refute it at one input. -/
def editBetweensWrong : ChangeSpec := { name := "editBetweens", fn := fun _ => fun
  | [d1, d2, d3] => { results := [.lit (.bool false)], args := [d1, d2, d3] }
  | _ => none }
def EditBetweensWrongFalsely : Prop := editBetweensRow.holds Try.pinned (OpenSpec.ofChange editBetweensWrong)

/-- 'quilltop.TopCode': WHATEVER THE INPUT: true; the input reads as it did. -/
def topCodeSpec : ChangeSpec := { name := "topCode", fn := fun _ => fun
  | [d] => { results := [.lit (.bool true)], args := [d] }
  | _ => none }
def topCodeRow : OpenClaim := { program := "ytapjodbaaejldaa", sum := "bbf71da95914d37143f64d982afb332afe1051877da420eebaae88361c81f9b0", func := "quillward/quilltop.TopCode", spec := "topCode", inPlace := ["internal/bytealg.abigen_runtime_cmpstring", "internal/bytealg.IndexByte", "internal/abi.NoEscape", "internal/bytealg.CountString", "internal/bytealg.IndexByteString", "internal/bytealg.IndexString"], unfollowed := true, recurses := true, named := ["internal/bytealg.MaxLen"], apart := false }
def TopCodeSaid : Prop := topCodeRow.holds Try.pinned (OpenSpec.ofChange topCodeSpec)

/-- ITS FALSE NEIGHBOUR: 'it returns false'. Refute it at one input. -/
def topCodeWrong : ChangeSpec := { name := "topCode", fn := fun _ => fun
  | [d] => { results := [.lit (.bool false)], args := [d] }
  | _ => none }
def TopCodeWrongFalsely : Prop := topCodeRow.holds Try.pinned (OpenSpec.ofChange topCodeWrong)

/-- 'quilltop.TopPowers': WHATEVER THE INPUT: true; the input reads as it did. -/
def topPowersSpec : ChangeSpec := { name := "topPowers", fn := fun _ => fun
  | [d1, d2] => { results := [.lit (.bool true)], args := [d1, d2] }
  | _ => none }
def topPowersRow : OpenClaim := { program := "ytapjodbaaejldaa", sum := "bbf71da95914d37143f64d982afb332afe1051877da420eebaae88361c81f9b0", func := "quillward/quilltop.TopPowers", spec := "topPowers", inPlace := ["internal/abi.NoEscape", "internal/bytealg.MakeNoZero", "internal/bytealg.abigen_runtime_cmpstring"], unfollowed := true, recurses := true, apart := false }
def TopPowersSaid : Prop := topPowersRow.holds Try.pinned (OpenSpec.ofChange topPowersSpec)

/-- ITS FALSE NEIGHBOUR: 'it returns false'. Refute it at one input. -/
def topPowersWrong : ChangeSpec := { name := "topPowers", fn := fun _ => fun
  | [d1, d2] => { results := [.lit (.bool false)], args := [d1, d2] }
  | _ => none }
def TopPowersWrongFalsely : Prop := topPowersRow.holds Try.pinned (OpenSpec.ofChange topPowersWrong)

/-- 'quilltop.TopFind': WHATEVER THE INPUT: true; the input reads as it did. -/
def topFindSpec : ChangeSpec := { name := "topFind", fn := fun _ => fun
  | [d1, d2] => { results := [.lit (.bool true)], args := [d1, d2] }
  | _ => none }
def topFindRow : OpenClaim := { program := "ytapjodbaaejldaa", sum := "bbf71da95914d37143f64d982afb332afe1051877da420eebaae88361c81f9b0", func := "quillward/quilltop.TopFind", spec := "topFind", inPlace := ["internal/bytealg.abigen_runtime_cmpstring", "internal/abi.NoEscape", "slices.overlaps[*quillward/trie.node]"], unfollowed := true, recurses := true, apart := false }
def TopFindSaid : Prop := topFindRow.holds Try.pinned (OpenSpec.ofChange topFindSpec)

/-- ITS FALSE NEIGHBOUR: 'it returns false'. Refute it at one input. -/
def topFindWrong : ChangeSpec := { name := "topFind", fn := fun _ => fun
  | [d1, d2] => { results := [.lit (.bool false)], args := [d1, d2] }
  | _ => none }
def TopFindWrongFalsely : Prop := topFindRow.holds Try.pinned (OpenSpec.ofChange topFindWrong)

/-- 'quilltop.TopUnlike': WHATEVER THE INPUT: true; the input reads as it did. -/
def topUnlikeSpec : ChangeSpec := { name := "topUnlike", fn := fun _ => fun
  | [d1, d2] => { results := [.lit (.bool true)], args := [d1, d2] }
  | _ => none }
def topUnlikeRow : OpenClaim := { program := "ytapjodbaaejldaa", sum := "bbf71da95914d37143f64d982afb332afe1051877da420eebaae88361c81f9b0", func := "quillward/quilltop.TopUnlike", spec := "topUnlike", inPlace := ["internal/bytealg.abigen_runtime_cmpstring", "internal/abi.NoEscape"], unfollowed := true, recurses := true, apart := false }
def TopUnlikeSaid : Prop := topUnlikeRow.holds Try.pinned (OpenSpec.ofChange topUnlikeSpec)

/-- ITS FALSE NEIGHBOUR: 'it returns false'. Refute it at one input. -/
def topUnlikeWrong : ChangeSpec := { name := "topUnlike", fn := fun _ => fun
  | [d1, d2] => { results := [.lit (.bool false)], args := [d1, d2] }
  | _ => none }
def TopUnlikeWrongFalsely : Prop := topUnlikeRow.holds Try.pinned (OpenSpec.ofChange topUnlikeWrong)

/-- 'quilltop.TopRing': WHATEVER THE INPUT: true; the input reads as it did. -/
def topRingSpec : ChangeSpec := { name := "topRing", fn := fun _ => fun
  | [d1, d2, d3] => { results := [.lit (.bool true)], args := [d1, d2, d3] }
  | _ => none }
def topRingRow : OpenClaim := { program := "ytapjodbaaejldaa", sum := "bbf71da95914d37143f64d982afb332afe1051877da420eebaae88361c81f9b0", func := "quillward/quilltop.TopRing", spec := "topRing", inPlace := ["internal/abi.NoEscape", "internal/bytealg.MakeNoZero", "internal/bytealg.abigen_runtime_cmpstring"], unfollowed := true, recurses := true, apart := false }
def TopRingSaid : Prop := topRingRow.holds Try.pinned (OpenSpec.ofChange topRingSpec)

/-- ITS FALSE NEIGHBOUR: 'it returns false'. Refute it at one input. -/
def topRingWrong : ChangeSpec := { name := "topRing", fn := fun _ => fun
  | [d1, d2, d3] => { results := [.lit (.bool false)], args := [d1, d2, d3] }
  | _ => none }
def TopRingWrongFalsely : Prop := topRingRow.holds Try.pinned (OpenSpec.ofChange topRingWrong)

/- THE SECOND FORM. 'bulk': how many values and letters a reading holds, each counted each time it is reached (what is shared counts as often as it is met; a slice's spare places count too). A statement '..UptoSaid' is the law's where the arguments, and the package variables that the reading takes, are together of bulk at most 1048576: NARROWER than '..Said'. Prove '..Said' where nothing that the law and all that it calls make is longer than what came in: it says more and counts as full. Else prove '..UptoSaid'. A law counts once. -/
mutual
def uptoBulk {H : Type} : DataW H → Nat
  | .lit (.string bytes) => bytes.length + 1
  | .lit _ => 1
  | .nil => 1
  | .ptr d => uptoBulk d + 1
  | .slice elems spare => uptoBulkAll elems + uptoBulkAll spare + 1
  | .agg parts => uptoBulkAll parts + 1
  | .iface _ d => uptoBulk d + 1
  | .map entries => uptoBulkEntries entries + 1
  | .held _ => 1
def uptoBulkAll {H : Type} : List (DataW H) → Nat
  | [] => 0
  | d :: r => uptoBulk d + uptoBulkAll r
def uptoBulkEntries {H : Type} : List (Lit × DataW H) → Nat
  | [] => 0
  | x :: r => uptoBulkEntry x + uptoBulkEntries r
def uptoBulkEntry {H : Type} : Lit × DataW H → Nat
  | (.string bytes, d) => bytes.length + uptoBulk d + 1
  | (_, d) => uptoBulk d + 1
 end
def uptoSmall : (H : Type) → List (DataW H) → Bool := fun _ ds => decide (uptoBulkAll ds ≤ 1048576)
def OpenSpec.upto (s : _root_.Go.ChangeSpec) : _root_.Go.OpenSpec := { _root_.Go.OpenSpec.ofChange s with cond := some uptoSmall }

/-- 'quilllaw.EditSays', WHERE WHAT IT READS IS OF BULK AT MOST 1048576: true; the input reads as it did. -/
def editSaysUptoRow : OpenClaim := { program := "ytapjodbaaejldaa", sum := "bbf71da95914d37143f64d982afb332afe1051877da420eebaae88361c81f9b0", func := "quillward/quilllaw.EditSays", spec := "editSays", inPlace := ["internal/abi.NoEscape"], unfollowed := true, recurses := true, apart := false, narrowed := true }
def EditSaysUptoSaid : Prop := editSaysUptoRow.holds Try.pinned (OpenSpec.upto editSaysSpec)

/-- 'quilllaw.EditBetween', WHERE WHAT IT READS IS OF BULK AT MOST 1048576: true; the input reads as it did. -/
def editBetweenUptoRow : OpenClaim := { program := "ytapjodbaaejldaa", sum := "bbf71da95914d37143f64d982afb332afe1051877da420eebaae88361c81f9b0", func := "quillward/quilllaw.EditBetween", spec := "editBetween", apart := false, narrowed := true }
def EditBetweenUptoSaid : Prop := editBetweenUptoRow.holds Try.pinned (OpenSpec.upto editBetweenSpec)

/-- 'quillkeep.EditUndone', WHERE WHAT IT READS IS OF BULK AT MOST 1048576: true; the input reads as it did. -/
def editUndoneUptoRow : OpenClaim := { program := "ytapjodbaaejldaa", sum := "bbf71da95914d37143f64d982afb332afe1051877da420eebaae88361c81f9b0", func := "quillward/quillkeep.EditUndone", spec := "editUndone", inPlace := ["internal/abi.NoEscape"], unfollowed := true, recurses := true, apart := false, narrowed := true }
def EditUndoneUptoSaid : Prop := editUndoneUptoRow.holds Try.pinned (OpenSpec.upto editUndoneSpec)

/-- 'quillkeep.EditPlaces', WHERE WHAT IT READS IS OF BULK AT MOST 1048576: true; the input reads as it did. -/
def editPlacesUptoRow : OpenClaim := { program := "ytapjodbaaejldaa", sum := "bbf71da95914d37143f64d982afb332afe1051877da420eebaae88361c81f9b0", func := "quillward/quillkeep.EditPlaces", spec := "editPlaces", inPlace := ["internal/abi.NoEscape"], unfollowed := true, recurses := true, apart := false, narrowed := true }
def EditPlacesUptoSaid : Prop := editPlacesUptoRow.holds Try.pinned (OpenSpec.upto editPlacesSpec)

/-- 'quillkeep.EditParts', WHERE WHAT IT READS IS OF BULK AT MOST 1048576: true; the input reads as it did. -/
def editPartsUptoRow : OpenClaim := { program := "ytapjodbaaejldaa", sum := "bbf71da95914d37143f64d982afb332afe1051877da420eebaae88361c81f9b0", func := "quillward/quillkeep.EditParts", spec := "editParts", inPlace := ["internal/abi.NoEscape"], apart := false, narrowed := true }
def EditPartsUptoSaid : Prop := editPartsUptoRow.holds Try.pinned (OpenSpec.upto editPartsSpec)

/-- 'quillkeep.EditBetweens', WHERE WHAT IT READS IS OF BULK AT MOST 1048576: true; the input reads as it did. -/
def editBetweensUptoRow : OpenClaim := { program := "ytapjodbaaejldaa", sum := "bbf71da95914d37143f64d982afb332afe1051877da420eebaae88361c81f9b0", func := "quillward/quillkeep.EditBetweens", spec := "editBetweens", inPlace := ["internal/abi.NoEscape"], apart := false, narrowed := true }
def EditBetweensUptoSaid : Prop := editBetweensUptoRow.holds Try.pinned (OpenSpec.upto editBetweensSpec)

/-- 'quilltop.TopCode', WHERE WHAT IT READS IS OF BULK AT MOST 1048576: true; the input reads as it did. -/
def topCodeUptoRow : OpenClaim := { program := "ytapjodbaaejldaa", sum := "bbf71da95914d37143f64d982afb332afe1051877da420eebaae88361c81f9b0", func := "quillward/quilltop.TopCode", spec := "topCode", inPlace := ["internal/bytealg.abigen_runtime_cmpstring", "internal/bytealg.IndexByte", "internal/abi.NoEscape", "internal/bytealg.CountString", "internal/bytealg.IndexByteString", "internal/bytealg.IndexString"], unfollowed := true, recurses := true, named := ["internal/bytealg.MaxLen"], apart := false, narrowed := true }
def TopCodeUptoSaid : Prop := topCodeUptoRow.holds Try.pinned (OpenSpec.upto topCodeSpec)

/-- 'quilltop.TopPowers', WHERE WHAT IT READS IS OF BULK AT MOST 1048576: true; the input reads as it did. -/
def topPowersUptoRow : OpenClaim := { program := "ytapjodbaaejldaa", sum := "bbf71da95914d37143f64d982afb332afe1051877da420eebaae88361c81f9b0", func := "quillward/quilltop.TopPowers", spec := "topPowers", inPlace := ["internal/abi.NoEscape", "internal/bytealg.MakeNoZero", "internal/bytealg.abigen_runtime_cmpstring"], unfollowed := true, recurses := true, apart := false, narrowed := true }
def TopPowersUptoSaid : Prop := topPowersUptoRow.holds Try.pinned (OpenSpec.upto topPowersSpec)

/-- 'quilltop.TopFind', WHERE WHAT IT READS IS OF BULK AT MOST 1048576: true; the input reads as it did. -/
def topFindUptoRow : OpenClaim := { program := "ytapjodbaaejldaa", sum := "bbf71da95914d37143f64d982afb332afe1051877da420eebaae88361c81f9b0", func := "quillward/quilltop.TopFind", spec := "topFind", inPlace := ["internal/bytealg.abigen_runtime_cmpstring", "internal/abi.NoEscape", "slices.overlaps[*quillward/trie.node]"], unfollowed := true, recurses := true, apart := false, narrowed := true }
def TopFindUptoSaid : Prop := topFindUptoRow.holds Try.pinned (OpenSpec.upto topFindSpec)

/-- 'quilltop.TopUnlike', WHERE WHAT IT READS IS OF BULK AT MOST 1048576: true; the input reads as it did. -/
def topUnlikeUptoRow : OpenClaim := { program := "ytapjodbaaejldaa", sum := "bbf71da95914d37143f64d982afb332afe1051877da420eebaae88361c81f9b0", func := "quillward/quilltop.TopUnlike", spec := "topUnlike", inPlace := ["internal/bytealg.abigen_runtime_cmpstring", "internal/abi.NoEscape"], unfollowed := true, recurses := true, apart := false, narrowed := true }
def TopUnlikeUptoSaid : Prop := topUnlikeUptoRow.holds Try.pinned (OpenSpec.upto topUnlikeSpec)

/-- 'quilltop.TopRing', WHERE WHAT IT READS IS OF BULK AT MOST 1048576: true; the input reads as it did. -/
def topRingUptoRow : OpenClaim := { program := "ytapjodbaaejldaa", sum := "bbf71da95914d37143f64d982afb332afe1051877da420eebaae88361c81f9b0", func := "quillward/quilltop.TopRing", spec := "topRing", inPlace := ["internal/abi.NoEscape", "internal/bytealg.MakeNoZero", "internal/bytealg.abigen_runtime_cmpstring"], unfollowed := true, recurses := true, apart := false, narrowed := true }
def TopRingUptoSaid : Prop := topRingUptoRow.holds Try.pinned (OpenSpec.upto topRingSpec)

end Rows
end Go.Proofs.Ytapjodbaaejldaa
