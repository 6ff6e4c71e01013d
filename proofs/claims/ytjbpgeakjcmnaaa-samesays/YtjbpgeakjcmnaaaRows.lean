/-
  No cell of these rows narrows 'for every input' (looked for: loops, veiled, ifaces, maps, wideKeys, modest, calm, conditions, laid).
  DERIVED. THE GIVEN ROWS OF THIS SEAT. 4 by the template 'for every input the law returns true; each argument reads behind the call as it read before'; 0 by the template 'total and deterministic' (their statements: YtjbpgeakjcmnaaaTotals.lean).
  GIVEN WITH THE SEED: the statements are not yours to turn. If you find one false, say at which input.
  Laid BY PROGRAM, IN A SANDBOX (cutbox-rows.mjs): the forced cells as the released guide's own fill.sh prints them over the translation 80bffc5b87950e7e… (all of the seat's roots in one cut). By AI agents, Wed Nov 11 2026. No macro, syntax, notation, axiom, sorry.
-/
import Derived.Test.YtjbpgeakjcmnaaaChecked
import GoSem.Claim
import GoSem.ClaimJoined
import GoSem.ClaimMapViews
import Derived.JoinedTies
import Derived.KernelRfl
namespace Go.Proofs.Ytjbpgeakjcmnaaa
/- THE CELL 'sum', in the pinned program and in every row, IS THE sha256 OF THE DUMP (.gsa) THAT YtjbpgeakjcmnaaaProg.lean LOADS. Nothing in Lean hashes anything: it is a label: what it is worth is what the hold of that sum in a sandbox is worth. -/
noncomputable def Try.pinned : Pinned := { name := "ytjbpgeakjcmnaaa", sum := "80bffc5b87950e7e08f6f786961107913e7456d68c76c950e314c94887ea58ec", checked := Try.checked }
namespace Rows
def none {H : Type} : Left H := { results := [], args := [] }

/-- 'quilllaw.SameSays': WHATEVER THE INPUT: true; the input reads as it did. -/
def sameSaysSpec : ChangeSpec := { name := "sameSays", fn := fun _ => fun
  | [d1, d2] => { results := [.lit (.bool true)], args := [d1, d2] }
  | _ => none }
def sameSaysRow : OpenClaim := { program := "ytjbpgeakjcmnaaa", sum := "80bffc5b87950e7e08f6f786961107913e7456d68c76c950e314c94887ea58ec", func := "quillward/quilllaw.SameSays", spec := "sameSays", inPlace := ["internal/bytealg.IndexByteString", "internal/bytealg.IndexString"], recurses := true, named := ["internal/bytealg.MaxLen"], apart := false }
def SameSaysSaid : Prop := sameSaysRow.holds Try.pinned (OpenSpec.ofChange sameSaysSpec)

/-- ITS FALSE NEIGHBOUR: 'it returns false'. Refute it at one input. -/
def sameSaysWrong : ChangeSpec := { name := "sameSays", fn := fun _ => fun
  | [d1, d2] => { results := [.lit (.bool false)], args := [d1, d2] }
  | _ => none }
def SameSaysWrongFalsely : Prop := sameSaysRow.holds Try.pinned (OpenSpec.ofChange sameSaysWrong)

/-- 'quillkeep.SameBounds': WHATEVER THE INPUT: true; the input reads as it did. -/
def sameBoundsSpec : ChangeSpec := { name := "sameBounds", fn := fun _ => fun
  | [d1, d2] => { results := [.lit (.bool true)], args := [d1, d2] }
  | _ => none }
def sameBoundsRow : OpenClaim := { program := "ytjbpgeakjcmnaaa", sum := "80bffc5b87950e7e08f6f786961107913e7456d68c76c950e314c94887ea58ec", func := "quillward/quillkeep.SameBounds", spec := "sameBounds", unfollowed := true, recurses := true, apart := false }
def SameBoundsSaid : Prop := sameBoundsRow.holds Try.pinned (OpenSpec.ofChange sameBoundsSpec)

/-- ITS FALSE NEIGHBOUR: 'it returns false'. Refute it at one input. -/
def sameBoundsWrong : ChangeSpec := { name := "sameBounds", fn := fun _ => fun
  | [d1, d2] => { results := [.lit (.bool false)], args := [d1, d2] }
  | _ => none }
def SameBoundsWrongFalsely : Prop := sameBoundsRow.holds Try.pinned (OpenSpec.ofChange sameBoundsWrong)

/-- 'quillkeep.SameWord': WHATEVER THE INPUT: true; the input reads as it did. -/
def sameWordSpec : ChangeSpec := { name := "sameWord", fn := fun _ => fun
  | [d1, d2, d3] => { results := [.lit (.bool true)], args := [d1, d2, d3] }
  | _ => none }
def sameWordRow : OpenClaim := { program := "ytjbpgeakjcmnaaa", sum := "80bffc5b87950e7e08f6f786961107913e7456d68c76c950e314c94887ea58ec", func := "quillward/quillkeep.SameWord", spec := "sameWord", unfollowed := true, recurses := true, apart := false }
def SameWordSaid : Prop := sameWordRow.holds Try.pinned (OpenSpec.ofChange sameWordSpec)

/-- ITS FALSE NEIGHBOUR: 'it returns false'. Refute it at one input. -/
def sameWordWrong : ChangeSpec := { name := "sameWord", fn := fun _ => fun
  | [d1, d2, d3] => { results := [.lit (.bool false)], args := [d1, d2, d3] }
  | _ => none }
def SameWordWrongFalsely : Prop := sameWordRow.holds Try.pinned (OpenSpec.ofChange sameWordWrong)

/-- 'quillkeep.SameJoins': WHATEVER THE INPUT: true; the input reads as it did. -/
def sameJoinsSpec : ChangeSpec := { name := "sameJoins", fn := fun _ => fun
  | [d1, d2, d3, d4, d5] => { results := [.lit (.bool true)], args := [d1, d2, d3, d4, d5] }
  | _ => none }
def sameJoinsRow : OpenClaim := { program := "ytjbpgeakjcmnaaa", sum := "80bffc5b87950e7e08f6f786961107913e7456d68c76c950e314c94887ea58ec", func := "quillward/quillkeep.SameJoins", spec := "sameJoins", unfollowed := true, recurses := true, apart := false }
def SameJoinsSaid : Prop := sameJoinsRow.holds Try.pinned (OpenSpec.ofChange sameJoinsSpec)

/-- ITS FALSE NEIGHBOUR: 'it returns false'. Refute it at one input. -/
def sameJoinsWrong : ChangeSpec := { name := "sameJoins", fn := fun _ => fun
  | [d1, d2, d3, d4, d5] => { results := [.lit (.bool false)], args := [d1, d2, d3, d4, d5] }
  | _ => none }
def SameJoinsWrongFalsely : Prop := sameJoinsRow.holds Try.pinned (OpenSpec.ofChange sameJoinsWrong)

/- THE SECOND FORM. 'bulk': how many values and letters a reading holds, each counted each time it is reached (what is shared counts as often as it is met; a slice's spare places count too). A statement '..UptoSaid' is the law's where the arguments, and the package variables that the reading takes, are together of bulk at most 1048576: NARROWER than '..Said'. Prove '..Said' where nothing that the law and all that it calls make is longer than what came in: it says more and counts as full. Else prove '..UptoSaid'. A law counts once. -/
mutual
def uptoBulk {H : Type} : DataW H → Nat
  | .lit (.string bytes) => bytes.length + 1
  | .lit _ => 1
  | .nil => 1
  | .ptr d => uptoBulk d + 1
  | .slice elems spare => uptoBulkAll elems + uptoBulkAll spare + 1
  | .agg parts => uptoBulkAll parts + 1
  | .iface _ d => uptoBulk d + 1
  | .map entries => uptoBulkEntries entries + 1
  | .held _ => 1
def uptoBulkAll {H : Type} : List (DataW H) → Nat
  | [] => 0
  | d :: r => uptoBulk d + uptoBulkAll r
def uptoBulkEntries {H : Type} : List (Lit × DataW H) → Nat
  | [] => 0
  | x :: r => uptoBulkEntry x + uptoBulkEntries r
def uptoBulkEntry {H : Type} : Lit × DataW H → Nat
  | (.string bytes, d) => bytes.length + uptoBulk d + 1
  | (_, d) => uptoBulk d + 1
 end
def uptoSmall : (H : Type) → List (DataW H) → Bool := fun _ ds => decide (uptoBulkAll ds ≤ 1048576)
def OpenSpec.upto (s : _root_.Go.ChangeSpec) : _root_.Go.OpenSpec := { _root_.Go.OpenSpec.ofChange s with cond := some uptoSmall }

/-- 'quilllaw.SameSays', WHERE WHAT IT READS IS OF BULK AT MOST 1048576: true; the input reads as it did. -/
def sameSaysUptoRow : OpenClaim := { program := "ytjbpgeakjcmnaaa", sum := "80bffc5b87950e7e08f6f786961107913e7456d68c76c950e314c94887ea58ec", func := "quillward/quilllaw.SameSays", spec := "sameSays", inPlace := ["internal/bytealg.IndexByteString", "internal/bytealg.IndexString"], recurses := true, named := ["internal/bytealg.MaxLen"], apart := false, narrowed := true }
def SameSaysUptoSaid : Prop := sameSaysUptoRow.holds Try.pinned (OpenSpec.upto sameSaysSpec)

/-- 'quillkeep.SameBounds', WHERE WHAT IT READS IS OF BULK AT MOST 1048576: true; the input reads as it did. -/
def sameBoundsUptoRow : OpenClaim := { program := "ytjbpgeakjcmnaaa", sum := "80bffc5b87950e7e08f6f786961107913e7456d68c76c950e314c94887ea58ec", func := "quillward/quillkeep.SameBounds", spec := "sameBounds", unfollowed := true, recurses := true, apart := false, narrowed := true }
def SameBoundsUptoSaid : Prop := sameBoundsUptoRow.holds Try.pinned (OpenSpec.upto sameBoundsSpec)

/-- 'quillkeep.SameWord', WHERE WHAT IT READS IS OF BULK AT MOST 1048576: true; the input reads as it did. -/
def sameWordUptoRow : OpenClaim := { program := "ytjbpgeakjcmnaaa", sum := "80bffc5b87950e7e08f6f786961107913e7456d68c76c950e314c94887ea58ec", func := "quillward/quillkeep.SameWord", spec := "sameWord", unfollowed := true, recurses := true, apart := false, narrowed := true }
def SameWordUptoSaid : Prop := sameWordUptoRow.holds Try.pinned (OpenSpec.upto sameWordSpec)

/-- 'quillkeep.SameJoins', WHERE WHAT IT READS IS OF BULK AT MOST 1048576: true; the input reads as it did. -/
def sameJoinsUptoRow : OpenClaim := { program := "ytjbpgeakjcmnaaa", sum := "80bffc5b87950e7e08f6f786961107913e7456d68c76c950e314c94887ea58ec", func := "quillward/quillkeep.SameJoins", spec := "sameJoins", unfollowed := true, recurses := true, apart := false, narrowed := true }
def SameJoinsUptoSaid : Prop := sameJoinsUptoRow.holds Try.pinned (OpenSpec.upto sameJoinsSpec)

end Rows
end Go.Proofs.Ytjbpgeakjcmnaaa
