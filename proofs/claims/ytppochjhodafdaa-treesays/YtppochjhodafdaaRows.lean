/-
  No cell of these rows narrows 'for every input' (looked for: loops, veiled, ifaces, maps, wideKeys, modest, calm, conditions, laid).
  DERIVED. THE GIVEN ROWS OF THIS SEAT. 4 by the template 'for every input the law returns true; each argument reads behind the call as it read before'; 0 by the template 'total and deterministic' (their statements: YtppochjhodafdaaTotals.lean).
  GIVEN WITH THE SEED: the statements are not yours to turn. If you find one false, say at which input.
  Laid BY PROGRAM, IN A SANDBOX (cutbox-rows.mjs): the forced cells as the released guide's own fill.sh prints them over the translation 99d27061cc3962bc… (all of the seat's roots in one cut). By AI agents, Wed Nov 11 2026. No macro, syntax, notation, axiom, sorry.
-/
import Derived.Test.YtppochjhodafdaaChecked
import GoSem.Claim
import GoSem.ClaimJoined
import GoSem.ClaimMapViews
import Derived.JoinedTies
import Derived.KernelRfl
namespace Go.Proofs.Ytppochjhodafdaa
/- THE CELL 'sum', in the pinned program and in every row, IS THE sha256 OF THE DUMP (.gsa) THAT YtppochjhodafdaaProg.lean LOADS. Nothing in Lean hashes anything: it is a label: what it is worth is what the hold of that sum in a sandbox is worth. -/
noncomputable def Try.pinned : Pinned := { name := "ytppochjhodafdaa", sum := "99d27061cc3962bc0395fdb54481735259e5634449b32d6ccf28e56adfffb071", checked := Try.checked }
namespace Rows
def none {H : Type} : Left H := { results := [], args := [] }

/-- 'quilllaw.TreeSays': WHATEVER THE INPUT: true; the input reads as it did. -/
def treeSaysSpec : ChangeSpec := { name := "treeSays", fn := fun _ => fun
  | [d1, d2] => { results := [.lit (.bool true)], args := [d1, d2] }
  | _ => none }
def treeSaysRow : OpenClaim := { program := "ytppochjhodafdaa", sum := "99d27061cc3962bc0395fdb54481735259e5634449b32d6ccf28e56adfffb071", func := "quillward/quilllaw.TreeSays", spec := "treeSays", unfollowed := true, recurses := true, apart := false }
def TreeSaysSaid : Prop := treeSaysRow.holds Try.pinned (OpenSpec.ofChange treeSaysSpec)

/-- ITS FALSE NEIGHBOUR: 'it returns false'. Refute it at one input. -/
def treeSaysWrong : ChangeSpec := { name := "treeSays", fn := fun _ => fun
  | [d1, d2] => { results := [.lit (.bool false)], args := [d1, d2] }
  | _ => none }
def TreeSaysWrongFalsely : Prop := treeSaysRow.holds Try.pinned (OpenSpec.ofChange treeSaysWrong)

/-- 'quillkeep.TreeLeast': WHATEVER THE INPUT: true; the input reads as it did. -/
def treeLeastSpec : ChangeSpec := { name := "treeLeast", fn := fun _ => fun
  | [d1, d2] => { results := [.lit (.bool true)], args := [d1, d2] }
  | _ => none }
def treeLeastRow : OpenClaim := { program := "ytppochjhodafdaa", sum := "99d27061cc3962bc0395fdb54481735259e5634449b32d6ccf28e56adfffb071", func := "quillward/quillkeep.TreeLeast", spec := "treeLeast", unfollowed := true, recurses := true, apart := false }
def TreeLeastSaid : Prop := treeLeastRow.holds Try.pinned (OpenSpec.ofChange treeLeastSpec)

/-- ITS FALSE NEIGHBOUR: 'it returns false'. Refute it at one input. -/
def treeLeastWrong : ChangeSpec := { name := "treeLeast", fn := fun _ => fun
  | [d1, d2] => { results := [.lit (.bool false)], args := [d1, d2] }
  | _ => none }
def TreeLeastWrongFalsely : Prop := treeLeastRow.holds Try.pinned (OpenSpec.ofChange treeLeastWrong)

/-- 'quillkeep.TreeShannon': WHATEVER THE INPUT: true; the input reads as it did. -/
def treeShannonSpec : ChangeSpec := { name := "treeShannon", fn := fun _ => fun
  | [d] => { results := [.lit (.bool true)], args := [d] }
  | _ => none }
def treeShannonRow : OpenClaim := { program := "ytppochjhodafdaa", sum := "99d27061cc3962bc0395fdb54481735259e5634449b32d6ccf28e56adfffb071", func := "quillward/quillkeep.TreeShannon", spec := "treeShannon", unfollowed := true, recurses := true, apart := false }
def TreeShannonSaid : Prop := treeShannonRow.holds Try.pinned (OpenSpec.ofChange treeShannonSpec)

/-- ITS FALSE NEIGHBOUR: 'it returns false'. Refute it at one input. -/
def treeShannonWrong : ChangeSpec := { name := "treeShannon", fn := fun _ => fun
  | [d] => { results := [.lit (.bool false)], args := [d] }
  | _ => none }
def TreeShannonWrongFalsely : Prop := treeShannonRow.holds Try.pinned (OpenSpec.ofChange treeShannonWrong)

/-- 'quillkeep.TreeHeavy': WHATEVER THE INPUT: true; the input reads as it did. -/
def treeHeavySpec : ChangeSpec := { name := "treeHeavy", fn := fun _ => fun
  | [d1, d2] => { results := [.lit (.bool true)], args := [d1, d2] }
  | _ => none }
def treeHeavyRow : OpenClaim := { program := "ytppochjhodafdaa", sum := "99d27061cc3962bc0395fdb54481735259e5634449b32d6ccf28e56adfffb071", func := "quillward/quillkeep.TreeHeavy", spec := "treeHeavy", unfollowed := true, recurses := true, apart := false }
def TreeHeavySaid : Prop := treeHeavyRow.holds Try.pinned (OpenSpec.ofChange treeHeavySpec)

/-- ITS FALSE NEIGHBOUR: 'it returns false'. Refute it at one input. -/
def treeHeavyWrong : ChangeSpec := { name := "treeHeavy", fn := fun _ => fun
  | [d1, d2] => { results := [.lit (.bool false)], args := [d1, d2] }
  | _ => none }
def TreeHeavyWrongFalsely : Prop := treeHeavyRow.holds Try.pinned (OpenSpec.ofChange treeHeavyWrong)

/- THE SECOND FORM. 'bulk': how many values and letters a reading holds, each counted each time it is reached (what is shared counts as often as it is met; a slice's spare places count too). A statement '..UptoSaid' is the law's where the arguments, and the package variables that the reading takes, are together of bulk at most 1048576: NARROWER than '..Said'. Prove '..Said' where nothing that the law and all that it calls make is longer than what came in: it says more and counts as full. Else prove '..UptoSaid'. A law counts once. -/
mutual
def uptoBulk {H : Type} : DataW H → Nat
  | .lit (.string bytes) => bytes.length + 1
  | .lit _ => 1
  | .nil => 1
  | .ptr d => uptoBulk d + 1
  | .slice elems spare => uptoBulkAll elems + uptoBulkAll spare + 1
  | .agg parts => uptoBulkAll parts + 1
  | .iface _ d => uptoBulk d + 1
  | .map entries => uptoBulkEntries entries + 1
  | .held _ => 1
def uptoBulkAll {H : Type} : List (DataW H) → Nat
  | [] => 0
  | d :: r => uptoBulk d + uptoBulkAll r
def uptoBulkEntries {H : Type} : List (Lit × DataW H) → Nat
  | [] => 0
  | x :: r => uptoBulkEntry x + uptoBulkEntries r
def uptoBulkEntry {H : Type} : Lit × DataW H → Nat
  | (.string bytes, d) => bytes.length + uptoBulk d + 1
  | (_, d) => uptoBulk d + 1
 end
def uptoSmall : (H : Type) → List (DataW H) → Bool := fun _ ds => decide (uptoBulkAll ds ≤ 1048576)
def OpenSpec.upto (s : _root_.Go.ChangeSpec) : _root_.Go.OpenSpec := { _root_.Go.OpenSpec.ofChange s with cond := some uptoSmall }

/-- 'quilllaw.TreeSays', WHERE WHAT IT READS IS OF BULK AT MOST 1048576: true; the input reads as it did. -/
def treeSaysUptoRow : OpenClaim := { program := "ytppochjhodafdaa", sum := "99d27061cc3962bc0395fdb54481735259e5634449b32d6ccf28e56adfffb071", func := "quillward/quilllaw.TreeSays", spec := "treeSays", unfollowed := true, recurses := true, apart := false, narrowed := true }
def TreeSaysUptoSaid : Prop := treeSaysUptoRow.holds Try.pinned (OpenSpec.upto treeSaysSpec)

/-- 'quillkeep.TreeLeast', WHERE WHAT IT READS IS OF BULK AT MOST 1048576: true; the input reads as it did. -/
def treeLeastUptoRow : OpenClaim := { program := "ytppochjhodafdaa", sum := "99d27061cc3962bc0395fdb54481735259e5634449b32d6ccf28e56adfffb071", func := "quillward/quillkeep.TreeLeast", spec := "treeLeast", unfollowed := true, recurses := true, apart := false, narrowed := true }
def TreeLeastUptoSaid : Prop := treeLeastUptoRow.holds Try.pinned (OpenSpec.upto treeLeastSpec)

/-- 'quillkeep.TreeShannon', WHERE WHAT IT READS IS OF BULK AT MOST 1048576: true; the input reads as it did. -/
def treeShannonUptoRow : OpenClaim := { program := "ytppochjhodafdaa", sum := "99d27061cc3962bc0395fdb54481735259e5634449b32d6ccf28e56adfffb071", func := "quillward/quillkeep.TreeShannon", spec := "treeShannon", unfollowed := true, recurses := true, apart := false, narrowed := true }
def TreeShannonUptoSaid : Prop := treeShannonUptoRow.holds Try.pinned (OpenSpec.upto treeShannonSpec)

/-- 'quillkeep.TreeHeavy', WHERE WHAT IT READS IS OF BULK AT MOST 1048576: true; the input reads as it did. -/
def treeHeavyUptoRow : OpenClaim := { program := "ytppochjhodafdaa", sum := "99d27061cc3962bc0395fdb54481735259e5634449b32d6ccf28e56adfffb071", func := "quillward/quillkeep.TreeHeavy", spec := "treeHeavy", unfollowed := true, recurses := true, apart := false, narrowed := true }
def TreeHeavyUptoSaid : Prop := treeHeavyUptoRow.holds Try.pinned (OpenSpec.upto treeHeavySpec)

end Rows
end Go.Proofs.Ytppochjhodafdaa
