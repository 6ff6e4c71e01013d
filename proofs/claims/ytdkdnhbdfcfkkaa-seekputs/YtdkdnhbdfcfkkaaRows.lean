/-
  No cell of these rows narrows 'for every input' (looked for: loops, veiled, ifaces, maps, wideKeys, modest, calm, conditions, laid).
  DERIVED. THE GIVEN ROWS OF THIS SEAT. 4 by the template 'for every input the law returns true; each argument reads behind the call as it read before'; 0 by the template 'total and deterministic' (their statements: YtdkdnhbdfcfkkaaTotals.lean).
  GIVEN WITH THE SEED: the statements are not yours to turn. If you find one false, say at which input.
  Laid BY PROGRAM, IN A SANDBOX (cutbox-rows.mjs): the forced cells as the released guide's own fill.sh prints them over the translation 3469029dab4dc00d… (all of the seat's roots in one cut). By AI agents, Wed Nov 11 2026. No macro, syntax, notation, axiom, sorry.
-/
import Derived.Test.YtdkdnhbdfcfkkaaChecked
import GoSem.Claim
import GoSem.ClaimJoined
import GoSem.ClaimMapViews
import Derived.JoinedTies
import Derived.KernelRfl
namespace Go.Proofs.Ytdkdnhbdfcfkkaa
/- THE CELL 'sum', in the pinned program and in every row, IS THE sha256 OF THE DUMP (.gsa) THAT YtdkdnhbdfcfkkaaProg.lean LOADS. Nothing in Lean hashes anything: it is a label: what it is worth is what the hold of that sum in a sandbox is worth. -/
noncomputable def Try.pinned : Pinned := { name := "ytdkdnhbdfcfkkaa", sum := "3469029dab4dc00d50a2ded10a1e8c6fc2008da8634e2a3a1efac74d70c7f24b", checked := Try.checked }
namespace Rows
def none {H : Type} : Left H := { results := [], args := [] }

/-- 'quillkeep.SeekEach': WHATEVER THE INPUT: true; the input reads as it did. -/
def seekEachSpec : ChangeSpec := { name := "seekEach", fn := fun _ => fun
  | [d1, d2, d3] => { results := [.lit (.bool true)], args := [d1, d2, d3] }
  | _ => none }
def seekEachRow : OpenClaim := { program := "ytdkdnhbdfcfkkaa", sum := "3469029dab4dc00d50a2ded10a1e8c6fc2008da8634e2a3a1efac74d70c7f24b", func := "quillward/quillkeep.SeekEach", spec := "seekEach", apart := false }
def SeekEachSaid : Prop := seekEachRow.holds Try.pinned (OpenSpec.ofChange seekEachSpec)

/-- ITS FALSE NEIGHBOUR: 'it returns false'. Refute it at one input. -/
def seekEachWrong : ChangeSpec := { name := "seekEach", fn := fun _ => fun
  | [d1, d2, d3] => { results := [.lit (.bool false)], args := [d1, d2, d3] }
  | _ => none }
def SeekEachWrongFalsely : Prop := seekEachRow.holds Try.pinned (OpenSpec.ofChange seekEachWrong)

/-- 'quillkeep.SeekFronts': WHATEVER THE INPUT: true; the input reads as it did. -/
def seekFrontsSpec : ChangeSpec := { name := "seekFronts", fn := fun _ => fun
  | [d1, d2] => { results := [.lit (.bool true)], args := [d1, d2] }
  | _ => none }
def seekFrontsRow : OpenClaim := { program := "ytdkdnhbdfcfkkaa", sum := "3469029dab4dc00d50a2ded10a1e8c6fc2008da8634e2a3a1efac74d70c7f24b", func := "quillward/quillkeep.SeekFronts", spec := "seekFronts", unfollowed := true, recurses := true, apart := false }
def SeekFrontsSaid : Prop := seekFrontsRow.holds Try.pinned (OpenSpec.ofChange seekFrontsSpec)

/-- ITS FALSE NEIGHBOUR: 'it returns false'. Refute it at one input. -/
def seekFrontsWrong : ChangeSpec := { name := "seekFronts", fn := fun _ => fun
  | [d1, d2] => { results := [.lit (.bool false)], args := [d1, d2] }
  | _ => none }
def SeekFrontsWrongFalsely : Prop := seekFrontsRow.holds Try.pinned (OpenSpec.ofChange seekFrontsWrong)

/-- 'quillkeep.SeekPuts': WHATEVER THE INPUT: true; the input reads as it did. -/
def seekPutsSpec : ChangeSpec := { name := "seekPuts", fn := fun _ => fun
  | [d1, d2, d3] => { results := [.lit (.bool true)], args := [d1, d2, d3] }
  | _ => none }
def seekPutsRow : OpenClaim := { program := "ytdkdnhbdfcfkkaa", sum := "3469029dab4dc00d50a2ded10a1e8c6fc2008da8634e2a3a1efac74d70c7f24b", func := "quillward/quillkeep.SeekPuts", spec := "seekPuts", inPlace := ["internal/abi.NoEscape", "internal/bytealg.IndexByteString", "internal/bytealg.IndexString"], named := ["internal/bytealg.MaxLen"], apart := false }
def SeekPutsSaid : Prop := seekPutsRow.holds Try.pinned (OpenSpec.ofChange seekPutsSpec)

/-- ITS FALSE NEIGHBOUR: 'it returns false'. Refute it at one input. -/
def seekPutsWrong : ChangeSpec := { name := "seekPuts", fn := fun _ => fun
  | [d1, d2, d3] => { results := [.lit (.bool false)], args := [d1, d2, d3] }
  | _ => none }
def SeekPutsWrongFalsely : Prop := seekPutsRow.holds Try.pinned (OpenSpec.ofChange seekPutsWrong)

/-- 'quillkeep.SeekShift': WHATEVER THE INPUT: true; the input reads as it did. -/
def seekShiftSpec : ChangeSpec := { name := "seekShift", fn := fun _ => fun
  | [d1, d2, d3] => { results := [.lit (.bool true)], args := [d1, d2, d3] }
  | _ => none }
def seekShiftRow : OpenClaim := { program := "ytdkdnhbdfcfkkaa", sum := "3469029dab4dc00d50a2ded10a1e8c6fc2008da8634e2a3a1efac74d70c7f24b", func := "quillward/quillkeep.SeekShift", spec := "seekShift", unfollowed := true, recurses := true, apart := false }
def SeekShiftSaid : Prop := seekShiftRow.holds Try.pinned (OpenSpec.ofChange seekShiftSpec)

/-- ITS FALSE NEIGHBOUR: 'it returns false'. Refute it at one input. -/
def seekShiftWrong : ChangeSpec := { name := "seekShift", fn := fun _ => fun
  | [d1, d2, d3] => { results := [.lit (.bool false)], args := [d1, d2, d3] }
  | _ => none }
def SeekShiftWrongFalsely : Prop := seekShiftRow.holds Try.pinned (OpenSpec.ofChange seekShiftWrong)

/- THE SECOND FORM. 'bulk': how many values and letters a reading holds, each counted each time it is reached (what is shared counts as often as it is met; a slice's spare places count too). A statement '..UptoSaid' is the law's where the arguments, and the package variables that the reading takes, are together of bulk at most 1048576: NARROWER than '..Said'. Prove '..Said' where nothing that the law and all that it calls make is longer than what came in: it says more and counts as full. Else prove '..UptoSaid'. A law counts once. -/
mutual
def uptoBulk {H : Type} : DataW H → Nat
  | .lit (.string bytes) => bytes.length + 1
  | .lit _ => 1
  | .nil => 1
  | .ptr d => uptoBulk d + 1
  | .slice elems spare => uptoBulkAll elems + uptoBulkAll spare + 1
  | .agg parts => uptoBulkAll parts + 1
  | .iface _ d => uptoBulk d + 1
  | .map entries => uptoBulkEntries entries + 1
  | .held _ => 1
def uptoBulkAll {H : Type} : List (DataW H) → Nat
  | [] => 0
  | d :: r => uptoBulk d + uptoBulkAll r
def uptoBulkEntries {H : Type} : List (Lit × DataW H) → Nat
  | [] => 0
  | x :: r => uptoBulkEntry x + uptoBulkEntries r
def uptoBulkEntry {H : Type} : Lit × DataW H → Nat
  | (.string bytes, d) => bytes.length + uptoBulk d + 1
  | (_, d) => uptoBulk d + 1
 end
def uptoSmall : (H : Type) → List (DataW H) → Bool := fun _ ds => decide (uptoBulkAll ds ≤ 1048576)
def OpenSpec.upto (s : _root_.Go.ChangeSpec) : _root_.Go.OpenSpec := { _root_.Go.OpenSpec.ofChange s with cond := some uptoSmall }

/-- 'quillkeep.SeekEach', WHERE WHAT IT READS IS OF BULK AT MOST 1048576: true; the input reads as it did. -/
def seekEachUptoRow : OpenClaim := { program := "ytdkdnhbdfcfkkaa", sum := "3469029dab4dc00d50a2ded10a1e8c6fc2008da8634e2a3a1efac74d70c7f24b", func := "quillward/quillkeep.SeekEach", spec := "seekEach", apart := false, narrowed := true }
def SeekEachUptoSaid : Prop := seekEachUptoRow.holds Try.pinned (OpenSpec.upto seekEachSpec)

/-- 'quillkeep.SeekFronts', WHERE WHAT IT READS IS OF BULK AT MOST 1048576: true; the input reads as it did. -/
def seekFrontsUptoRow : OpenClaim := { program := "ytdkdnhbdfcfkkaa", sum := "3469029dab4dc00d50a2ded10a1e8c6fc2008da8634e2a3a1efac74d70c7f24b", func := "quillward/quillkeep.SeekFronts", spec := "seekFronts", unfollowed := true, recurses := true, apart := false, narrowed := true }
def SeekFrontsUptoSaid : Prop := seekFrontsUptoRow.holds Try.pinned (OpenSpec.upto seekFrontsSpec)

/-- 'quillkeep.SeekPuts', WHERE WHAT IT READS IS OF BULK AT MOST 1048576: true; the input reads as it did. -/
def seekPutsUptoRow : OpenClaim := { program := "ytdkdnhbdfcfkkaa", sum := "3469029dab4dc00d50a2ded10a1e8c6fc2008da8634e2a3a1efac74d70c7f24b", func := "quillward/quillkeep.SeekPuts", spec := "seekPuts", inPlace := ["internal/abi.NoEscape", "internal/bytealg.IndexByteString", "internal/bytealg.IndexString"], named := ["internal/bytealg.MaxLen"], apart := false, narrowed := true }
def SeekPutsUptoSaid : Prop := seekPutsUptoRow.holds Try.pinned (OpenSpec.upto seekPutsSpec)

/-- 'quillkeep.SeekShift', WHERE WHAT IT READS IS OF BULK AT MOST 1048576: true; the input reads as it did. -/
def seekShiftUptoRow : OpenClaim := { program := "ytdkdnhbdfcfkkaa", sum := "3469029dab4dc00d50a2ded10a1e8c6fc2008da8634e2a3a1efac74d70c7f24b", func := "quillward/quillkeep.SeekShift", spec := "seekShift", unfollowed := true, recurses := true, apart := false, narrowed := true }
def SeekShiftUptoSaid : Prop := seekShiftUptoRow.holds Try.pinned (OpenSpec.upto seekShiftSpec)

end Rows
end Go.Proofs.Ytdkdnhbdfcfkkaa
