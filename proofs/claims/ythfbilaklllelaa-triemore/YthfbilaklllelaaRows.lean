/-
  No cell of these rows narrows 'for every input' (looked for: loops, veiled, ifaces, maps, wideKeys, modest, calm, conditions, laid).
  DERIVED. THE GIVEN ROWS OF THIS SEAT. 5 by the template 'for every input the law returns true; each argument reads behind the call as it read before'; 0 by the template 'total and deterministic' (their statements: YthfbilaklllelaaTotals.lean).
  GIVEN WITH THE SEED: the statements are not yours to turn. If you find one false, say at which input.
  Laid BY PROGRAM, IN A SANDBOX (cutbox-rows.mjs): the forced cells as the released guide's own fill.sh prints them over the translation c4945eed9cc5a0d0… (all of the seat's roots in one cut). By AI agents, Wed Nov 11 2026. No macro, syntax, notation, axiom, sorry.
-/
import Derived.Test.YthfbilaklllelaaChecked
import GoSem.Claim
import GoSem.ClaimJoined
import GoSem.ClaimMapViews
import Derived.JoinedTies
import Derived.KernelRfl
namespace Go.Proofs.Ythfbilaklllelaa
/- THE CELL 'sum', in the pinned program and in every row, IS THE sha256 OF THE DUMP (.gsa) THAT YthfbilaklllelaaProg.lean LOADS. Nothing in Lean hashes anything: it is a label: what it is worth is what the hold of that sum in a sandbox is worth. -/
noncomputable def Try.pinned : Pinned := { name := "ythfbilaklllelaa", sum := "c4945eed9cc5a0d0cffa8c451dc5d05b8340096694b0b0a1b6309718b16eb4dc", checked := Try.checked }
namespace Rows
def none {H : Type} : Left H := { results := [], args := [] }

/-- 'quilllaw.TrieSays': WHATEVER THE INPUT: true; the input reads as it did. -/
def trieSaysSpec : ChangeSpec := { name := "trieSays", fn := fun _ => fun
  | [d1, d2, d3] => { results := [.lit (.bool true)], args := [d1, d2, d3] }
  | _ => none }
def trieSaysRow : OpenClaim := { program := "ythfbilaklllelaa", sum := "c4945eed9cc5a0d0cffa8c451dc5d05b8340096694b0b0a1b6309718b16eb4dc", func := "quillward/quilllaw.TrieSays", spec := "trieSays", inPlace := ["slices.overlaps[*quillward/trie.node]"], unfollowed := true, recurses := true, apart := false }
def TrieSaysSaid : Prop := trieSaysRow.holds Try.pinned (OpenSpec.ofChange trieSaysSpec)

/-- ITS FALSE NEIGHBOUR: 'it returns false'. Refute it at one input. -/
def trieSaysWrong : ChangeSpec := { name := "trieSays", fn := fun _ => fun
  | [d1, d2, d3] => { results := [.lit (.bool false)], args := [d1, d2, d3] }
  | _ => none }
def TrieSaysWrongFalsely : Prop := trieSaysRow.holds Try.pinned (OpenSpec.ofChange trieSaysWrong)

/-- 'quillkeep.TrieEach': WHATEVER THE INPUT: true; the input reads as it did. -/
def trieEachSpec : ChangeSpec := { name := "trieEach", fn := fun _ => fun
  | [d1, d2] => { results := [.lit (.bool true)], args := [d1, d2] }
  | _ => none }
def trieEachRow : OpenClaim := { program := "ythfbilaklllelaa", sum := "c4945eed9cc5a0d0cffa8c451dc5d05b8340096694b0b0a1b6309718b16eb4dc", func := "quillward/quillkeep.TrieEach", spec := "trieEach", inPlace := ["slices.overlaps[*quillward/trie.node]"], unfollowed := true, recurses := true, apart := false }
def TrieEachSaid : Prop := trieEachRow.holds Try.pinned (OpenSpec.ofChange trieEachSpec)

/-- ITS FALSE NEIGHBOUR: 'it returns false'. Refute it at one input. -/
def trieEachWrong : ChangeSpec := { name := "trieEach", fn := fun _ => fun
  | [d1, d2] => { results := [.lit (.bool false)], args := [d1, d2] }
  | _ => none }
def TrieEachWrongFalsely : Prop := trieEachRow.holds Try.pinned (OpenSpec.ofChange trieEachWrong)

/-- 'quillkeep.TrieMore': WHATEVER THE INPUT: true; the input reads as it did. -/
def trieMoreSpec : ChangeSpec := { name := "trieMore", fn := fun _ => fun
  | [d1, d2, d3] => { results := [.lit (.bool true)], args := [d1, d2, d3] }
  | _ => none }
def trieMoreRow : OpenClaim := { program := "ythfbilaklllelaa", sum := "c4945eed9cc5a0d0cffa8c451dc5d05b8340096694b0b0a1b6309718b16eb4dc", func := "quillward/quillkeep.TrieMore", spec := "trieMore", inPlace := ["slices.overlaps[*quillward/trie.node]"], unfollowed := true, recurses := true, apart := false }
def TrieMoreSaid : Prop := trieMoreRow.holds Try.pinned (OpenSpec.ofChange trieMoreSpec)

/-- ITS FALSE NEIGHBOUR: 'it returns false'. Refute it at one input. -/
def trieMoreWrong : ChangeSpec := { name := "trieMore", fn := fun _ => fun
  | [d1, d2, d3] => { results := [.lit (.bool false)], args := [d1, d2, d3] }
  | _ => none }
def TrieMoreWrongFalsely : Prop := trieMoreRow.holds Try.pinned (OpenSpec.ofChange trieMoreWrong)

/-- 'quillkeep.TrieFronts': WHATEVER THE INPUT: true; the input reads as it did. -/
def trieFrontsSpec : ChangeSpec := { name := "trieFronts", fn := fun _ => fun
  | [d1, d2, d3] => { results := [.lit (.bool true)], args := [d1, d2, d3] }
  | _ => none }
def trieFrontsRow : OpenClaim := { program := "ythfbilaklllelaa", sum := "c4945eed9cc5a0d0cffa8c451dc5d05b8340096694b0b0a1b6309718b16eb4dc", func := "quillward/quillkeep.TrieFronts", spec := "trieFronts", inPlace := ["slices.overlaps[*quillward/trie.node]"], unfollowed := true, recurses := true, apart := false }
def TrieFrontsSaid : Prop := trieFrontsRow.holds Try.pinned (OpenSpec.ofChange trieFrontsSpec)

/-- ITS FALSE NEIGHBOUR: 'it returns false'. Refute it at one input. -/
def trieFrontsWrong : ChangeSpec := { name := "trieFronts", fn := fun _ => fun
  | [d1, d2, d3] => { results := [.lit (.bool false)], args := [d1, d2, d3] }
  | _ => none }
def TrieFrontsWrongFalsely : Prop := trieFrontsRow.holds Try.pinned (OpenSpec.ofChange trieFrontsWrong)

/-- 'quillkeep.TrieNested': WHATEVER THE INPUT: true; the input reads as it did. -/
def trieNestedSpec : ChangeSpec := { name := "trieNested", fn := fun _ => fun
  | [d1, d2] => { results := [.lit (.bool true)], args := [d1, d2] }
  | _ => none }
def trieNestedRow : OpenClaim := { program := "ythfbilaklllelaa", sum := "c4945eed9cc5a0d0cffa8c451dc5d05b8340096694b0b0a1b6309718b16eb4dc", func := "quillward/quillkeep.TrieNested", spec := "trieNested", inPlace := ["slices.overlaps[*quillward/trie.node]"], unfollowed := true, recurses := true, apart := false }
def TrieNestedSaid : Prop := trieNestedRow.holds Try.pinned (OpenSpec.ofChange trieNestedSpec)

/-- ITS FALSE NEIGHBOUR: 'it returns false'. Refute it at one input. -/
def trieNestedWrong : ChangeSpec := { name := "trieNested", fn := fun _ => fun
  | [d1, d2] => { results := [.lit (.bool false)], args := [d1, d2] }
  | _ => none }
def TrieNestedWrongFalsely : Prop := trieNestedRow.holds Try.pinned (OpenSpec.ofChange trieNestedWrong)

/- THE SECOND FORM. 'bulk': how many values and letters a reading holds, each counted each time it is reached (what is shared counts as often as it is met; a slice's spare places count too). A statement '..UptoSaid' is the law's where the arguments, and the package variables that the reading takes, are together of bulk at most 1048576: NARROWER than '..Said'. Prove '..Said' where nothing that the law and all that it calls make is longer than what came in: it says more and counts as full. Else prove '..UptoSaid'. A law counts once. -/
mutual
def uptoBulk {H : Type} : DataW H → Nat
  | .lit (.string bytes) => bytes.length + 1
  | .lit _ => 1
  | .nil => 1
  | .ptr d => uptoBulk d + 1
  | .slice elems spare => uptoBulkAll elems + uptoBulkAll spare + 1
  | .agg parts => uptoBulkAll parts + 1
  | .iface _ d => uptoBulk d + 1
  | .map entries => uptoBulkEntries entries + 1
  | .held _ => 1
def uptoBulkAll {H : Type} : List (DataW H) → Nat
  | [] => 0
  | d :: r => uptoBulk d + uptoBulkAll r
def uptoBulkEntries {H : Type} : List (Lit × DataW H) → Nat
  | [] => 0
  | x :: r => uptoBulkEntry x + uptoBulkEntries r
def uptoBulkEntry {H : Type} : Lit × DataW H → Nat
  | (.string bytes, d) => bytes.length + uptoBulk d + 1
  | (_, d) => uptoBulk d + 1
 end
def uptoSmall : (H : Type) → List (DataW H) → Bool := fun _ ds => decide (uptoBulkAll ds ≤ 1048576)
def OpenSpec.upto (s : _root_.Go.ChangeSpec) : _root_.Go.OpenSpec := { _root_.Go.OpenSpec.ofChange s with cond := some uptoSmall }

/-- 'quilllaw.TrieSays', WHERE WHAT IT READS IS OF BULK AT MOST 1048576: true; the input reads as it did. -/
def trieSaysUptoRow : OpenClaim := { program := "ythfbilaklllelaa", sum := "c4945eed9cc5a0d0cffa8c451dc5d05b8340096694b0b0a1b6309718b16eb4dc", func := "quillward/quilllaw.TrieSays", spec := "trieSays", inPlace := ["slices.overlaps[*quillward/trie.node]"], unfollowed := true, recurses := true, apart := false, narrowed := true }
def TrieSaysUptoSaid : Prop := trieSaysUptoRow.holds Try.pinned (OpenSpec.upto trieSaysSpec)

/-- 'quillkeep.TrieEach', WHERE WHAT IT READS IS OF BULK AT MOST 1048576: true; the input reads as it did. -/
def trieEachUptoRow : OpenClaim := { program := "ythfbilaklllelaa", sum := "c4945eed9cc5a0d0cffa8c451dc5d05b8340096694b0b0a1b6309718b16eb4dc", func := "quillward/quillkeep.TrieEach", spec := "trieEach", inPlace := ["slices.overlaps[*quillward/trie.node]"], unfollowed := true, recurses := true, apart := false, narrowed := true }
def TrieEachUptoSaid : Prop := trieEachUptoRow.holds Try.pinned (OpenSpec.upto trieEachSpec)

/-- 'quillkeep.TrieMore', WHERE WHAT IT READS IS OF BULK AT MOST 1048576: true; the input reads as it did. -/
def trieMoreUptoRow : OpenClaim := { program := "ythfbilaklllelaa", sum := "c4945eed9cc5a0d0cffa8c451dc5d05b8340096694b0b0a1b6309718b16eb4dc", func := "quillward/quillkeep.TrieMore", spec := "trieMore", inPlace := ["slices.overlaps[*quillward/trie.node]"], unfollowed := true, recurses := true, apart := false, narrowed := true }
def TrieMoreUptoSaid : Prop := trieMoreUptoRow.holds Try.pinned (OpenSpec.upto trieMoreSpec)

/-- 'quillkeep.TrieFronts', WHERE WHAT IT READS IS OF BULK AT MOST 1048576: true; the input reads as it did. -/
def trieFrontsUptoRow : OpenClaim := { program := "ythfbilaklllelaa", sum := "c4945eed9cc5a0d0cffa8c451dc5d05b8340096694b0b0a1b6309718b16eb4dc", func := "quillward/quillkeep.TrieFronts", spec := "trieFronts", inPlace := ["slices.overlaps[*quillward/trie.node]"], unfollowed := true, recurses := true, apart := false, narrowed := true }
def TrieFrontsUptoSaid : Prop := trieFrontsUptoRow.holds Try.pinned (OpenSpec.upto trieFrontsSpec)

/-- 'quillkeep.TrieNested', WHERE WHAT IT READS IS OF BULK AT MOST 1048576: true; the input reads as it did. -/
def trieNestedUptoRow : OpenClaim := { program := "ythfbilaklllelaa", sum := "c4945eed9cc5a0d0cffa8c451dc5d05b8340096694b0b0a1b6309718b16eb4dc", func := "quillward/quillkeep.TrieNested", spec := "trieNested", inPlace := ["slices.overlaps[*quillward/trie.node]"], unfollowed := true, recurses := true, apart := false, narrowed := true }
def TrieNestedUptoSaid : Prop := trieNestedUptoRow.holds Try.pinned (OpenSpec.upto trieNestedSpec)

end Rows
end Go.Proofs.Ythfbilaklllelaa
