/-
  No cell of these rows narrows 'for every input' (looked for: loops, veiled, ifaces, maps, wideKeys, modest, calm, conditions, laid).
  DERIVED. THE GIVEN ROWS OF THIS SEAT. 7 by the template 'for every input the law returns true; each argument reads behind the call as it read before'; 0 by the template 'total and deterministic' (their statements: YtddejiblgodgkaaTotals.lean).
  GIVEN WITH THE SEED: the statements are not yours to turn. If you find one false, say at which input.
  Laid BY PROGRAM, IN A SANDBOX (cutbox-rows.mjs): the forced cells as the released guide's own fill.sh prints them over the translation 5de1a1659aff9fba… (all of the seat's roots in one cut). By AI agents, Wed Nov 11 2026. No macro, syntax, notation, axiom, sorry.
-/
import Derived.Test.YtddejiblgodgkaaChecked
import GoSem.Claim
import GoSem.ClaimJoined
import GoSem.ClaimMapViews
import Derived.JoinedTies
import Derived.KernelRfl
namespace Go.Proofs.Ytddejiblgodgkaa
/- THE CELL 'sum', in the pinned program and in every row, IS THE sha256 OF THE DUMP (.gsa) THAT YtddejiblgodgkaaProg.lean LOADS. Nothing in Lean hashes anything: it is a label: what it is worth is what the hold of that sum in a sandbox is worth. -/
noncomputable def Try.pinned : Pinned := { name := "ytddejiblgodgkaa", sum := "5de1a1659aff9fbab16dcd3005996dd8327e9fc3cb013ea695f7430a440dd09e", checked := Try.checked }
namespace Rows
def none {H : Type} : Left H := { results := [], args := [] }

/-- 'quilllaw.LyndonSays': WHATEVER THE INPUT: true; the input reads as it did. -/
def lyndonSaysSpec : ChangeSpec := { name := "lyndonSays", fn := fun _ => fun
  | [d] => { results := [.lit (.bool true)], args := [d] }
  | _ => none }
def lyndonSaysRow : OpenClaim := { program := "ytddejiblgodgkaa", sum := "5de1a1659aff9fbab16dcd3005996dd8327e9fc3cb013ea695f7430a440dd09e", func := "quillward/quilllaw.LyndonSays", spec := "lyndonSays", inPlace := ["internal/abi.NoEscape", "internal/bytealg.MakeNoZero"], apart := false }
def LyndonSaysSaid : Prop := lyndonSaysRow.holds Try.pinned (OpenSpec.ofChange lyndonSaysSpec)

/-- ITS FALSE NEIGHBOUR: 'it returns false'. Refute it at one input. -/
def lyndonSaysWrong : ChangeSpec := { name := "lyndonSays", fn := fun _ => fun
  | [d] => { results := [.lit (.bool false)], args := [d] }
  | _ => none }
def LyndonSaysWrongFalsely : Prop := lyndonSaysRow.holds Try.pinned (OpenSpec.ofChange lyndonSaysWrong)

/-- 'quilllaw.LyndonNext': WHATEVER THE INPUT: true; the input reads as it did. -/
def lyndonNextSpec : ChangeSpec := { name := "lyndonNext", fn := fun _ => fun
  | [d1, d2, d3] => { results := [.lit (.bool true)], args := [d1, d2, d3] }
  | _ => none }
def lyndonNextRow : OpenClaim := { program := "ytddejiblgodgkaa", sum := "5de1a1659aff9fbab16dcd3005996dd8327e9fc3cb013ea695f7430a440dd09e", func := "quillward/quilllaw.LyndonNext", spec := "lyndonNext", inPlace := ["internal/abi.NoEscape", "internal/bytealg.MakeNoZero"], apart := false }
def LyndonNextSaid : Prop := lyndonNextRow.holds Try.pinned (OpenSpec.ofChange lyndonNextSpec)

/-- ITS FALSE NEIGHBOUR: 'it returns false'. Refute it at one input. -/
def lyndonNextWrong : ChangeSpec := { name := "lyndonNext", fn := fun _ => fun
  | [d1, d2, d3] => { results := [.lit (.bool false)], args := [d1, d2, d3] }
  | _ => none }
def LyndonNextWrongFalsely : Prop := lyndonNextRow.holds Try.pinned (OpenSpec.ofChange lyndonNextWrong)

/-- 'quillkeep.LyndonOne': WHATEVER THE INPUT: true; the input reads as it did. -/
def lyndonOneSpec : ChangeSpec := { name := "lyndonOne", fn := fun _ => fun
  | [d] => { results := [.lit (.bool true)], args := [d] }
  | _ => none }
def lyndonOneRow : OpenClaim := { program := "ytddejiblgodgkaa", sum := "5de1a1659aff9fbab16dcd3005996dd8327e9fc3cb013ea695f7430a440dd09e", func := "quillward/quillkeep.LyndonOne", spec := "lyndonOne", inPlace := ["internal/abi.NoEscape", "internal/bytealg.MakeNoZero"], apart := false }
def LyndonOneSaid : Prop := lyndonOneRow.holds Try.pinned (OpenSpec.ofChange lyndonOneSpec)

/-- ITS FALSE NEIGHBOUR: 'it returns false'. Refute it at one input. -/
def lyndonOneWrong : ChangeSpec := { name := "lyndonOne", fn := fun _ => fun
  | [d] => { results := [.lit (.bool false)], args := [d] }
  | _ => none }
def LyndonOneWrongFalsely : Prop := lyndonOneRow.holds Try.pinned (OpenSpec.ofChange lyndonOneWrong)

/-- 'quillkeep.LyndonJoin': WHATEVER THE INPUT: true; the input reads as it did. -/
def lyndonJoinSpec : ChangeSpec := { name := "lyndonJoin", fn := fun _ => fun
  | [d1, d2] => { results := [.lit (.bool true)], args := [d1, d2] }
  | _ => none }
def lyndonJoinRow : OpenClaim := { program := "ytddejiblgodgkaa", sum := "5de1a1659aff9fbab16dcd3005996dd8327e9fc3cb013ea695f7430a440dd09e", func := "quillward/quillkeep.LyndonJoin", spec := "lyndonJoin", unfollowed := true, recurses := true, apart := false }
def LyndonJoinSaid : Prop := lyndonJoinRow.holds Try.pinned (OpenSpec.ofChange lyndonJoinSpec)

/-- ITS FALSE NEIGHBOUR: 'it returns false'. Refute it at one input. -/
def lyndonJoinWrong : ChangeSpec := { name := "lyndonJoin", fn := fun _ => fun
  | [d1, d2] => { results := [.lit (.bool false)], args := [d1, d2] }
  | _ => none }
def LyndonJoinWrongFalsely : Prop := lyndonJoinRow.holds Try.pinned (OpenSpec.ofChange lyndonJoinWrong)

/-- 'quillkeep.LyndonEnds': WHATEVER THE INPUT: true; the input reads as it did. -/
def lyndonEndsSpec : ChangeSpec := { name := "lyndonEnds", fn := fun _ => fun
  | [d1, d2] => { results := [.lit (.bool true)], args := [d1, d2] }
  | _ => none }
def lyndonEndsRow : OpenClaim := { program := "ytddejiblgodgkaa", sum := "5de1a1659aff9fbab16dcd3005996dd8327e9fc3cb013ea695f7430a440dd09e", func := "quillward/quillkeep.LyndonEnds", spec := "lyndonEnds", apart := false }
def LyndonEndsSaid : Prop := lyndonEndsRow.holds Try.pinned (OpenSpec.ofChange lyndonEndsSpec)

/-- ITS FALSE NEIGHBOUR: 'it returns false'. Refute it at one input. -/
def lyndonEndsWrong : ChangeSpec := { name := "lyndonEnds", fn := fun _ => fun
  | [d1, d2] => { results := [.lit (.bool false)], args := [d1, d2] }
  | _ => none }
def LyndonEndsWrongFalsely : Prop := lyndonEndsRow.holds Try.pinned (OpenSpec.ofChange lyndonEndsWrong)

/-- 'quillkeep.LyndonTurns': WHATEVER THE INPUT: true; the input reads as it did. -/
def lyndonTurnsSpec : ChangeSpec := { name := "lyndonTurns", fn := fun _ => fun
  | [d1, d2] => { results := [.lit (.bool true)], args := [d1, d2] }
  | _ => none }
def lyndonTurnsRow : OpenClaim := { program := "ytddejiblgodgkaa", sum := "5de1a1659aff9fbab16dcd3005996dd8327e9fc3cb013ea695f7430a440dd09e", func := "quillward/quillkeep.LyndonTurns", spec := "lyndonTurns", unfollowed := true, recurses := true, apart := false }
def LyndonTurnsSaid : Prop := lyndonTurnsRow.holds Try.pinned (OpenSpec.ofChange lyndonTurnsSpec)

/-- ITS FALSE NEIGHBOUR: 'it returns false'. Refute it at one input. -/
def lyndonTurnsWrong : ChangeSpec := { name := "lyndonTurns", fn := fun _ => fun
  | [d1, d2] => { results := [.lit (.bool false)], args := [d1, d2] }
  | _ => none }
def LyndonTurnsWrongFalsely : Prop := lyndonTurnsRow.holds Try.pinned (OpenSpec.ofChange lyndonTurnsWrong)

/-- 'quillkeep.LyndonDuval': WHATEVER THE INPUT: true; the input reads as it did. -/
def lyndonDuvalSpec : ChangeSpec := { name := "lyndonDuval", fn := fun _ => fun
  | [d1, d2, d3, d4] => { results := [.lit (.bool true)], args := [d1, d2, d3, d4] }
  | _ => none }
def lyndonDuvalRow : OpenClaim := { program := "ytddejiblgodgkaa", sum := "5de1a1659aff9fbab16dcd3005996dd8327e9fc3cb013ea695f7430a440dd09e", func := "quillward/quillkeep.LyndonDuval", spec := "lyndonDuval", inPlace := ["internal/abi.NoEscape", "internal/bytealg.MakeNoZero"], unfollowed := true, recurses := true, apart := false }
def LyndonDuvalSaid : Prop := lyndonDuvalRow.holds Try.pinned (OpenSpec.ofChange lyndonDuvalSpec)

/-- ITS FALSE NEIGHBOUR: 'it returns false'. Refute it at one input. -/
def lyndonDuvalWrong : ChangeSpec := { name := "lyndonDuval", fn := fun _ => fun
  | [d1, d2, d3, d4] => { results := [.lit (.bool false)], args := [d1, d2, d3, d4] }
  | _ => none }
def LyndonDuvalWrongFalsely : Prop := lyndonDuvalRow.holds Try.pinned (OpenSpec.ofChange lyndonDuvalWrong)

/- THE SECOND FORM. 'bulk': how many values and letters a reading holds, each counted each time it is reached (what is shared counts as often as it is met; a slice's spare places count too). A statement '..UptoSaid' is the law's where the arguments, and the package variables that the reading takes, are together of bulk at most 1048576: NARROWER than '..Said'. Prove '..Said' where nothing that the law and all that it calls make is longer than what came in: it says more and counts as full. Else prove '..UptoSaid'. A law counts once. -/
mutual
def uptoBulk {H : Type} : DataW H → Nat
  | .lit (.string bytes) => bytes.length + 1
  | .lit _ => 1
  | .nil => 1
  | .ptr d => uptoBulk d + 1
  | .slice elems spare => uptoBulkAll elems + uptoBulkAll spare + 1
  | .agg parts => uptoBulkAll parts + 1
  | .iface _ d => uptoBulk d + 1
  | .map entries => uptoBulkEntries entries + 1
  | .held _ => 1
def uptoBulkAll {H : Type} : List (DataW H) → Nat
  | [] => 0
  | d :: r => uptoBulk d + uptoBulkAll r
def uptoBulkEntries {H : Type} : List (Lit × DataW H) → Nat
  | [] => 0
  | x :: r => uptoBulkEntry x + uptoBulkEntries r
def uptoBulkEntry {H : Type} : Lit × DataW H → Nat
  | (.string bytes, d) => bytes.length + uptoBulk d + 1
  | (_, d) => uptoBulk d + 1
 end
def uptoSmall : (H : Type) → List (DataW H) → Bool := fun _ ds => decide (uptoBulkAll ds ≤ 1048576)
def OpenSpec.upto (s : _root_.Go.ChangeSpec) : _root_.Go.OpenSpec := { _root_.Go.OpenSpec.ofChange s with cond := some uptoSmall }

/-- 'quilllaw.LyndonSays', WHERE WHAT IT READS IS OF BULK AT MOST 1048576: true; the input reads as it did. -/
def lyndonSaysUptoRow : OpenClaim := { program := "ytddejiblgodgkaa", sum := "5de1a1659aff9fbab16dcd3005996dd8327e9fc3cb013ea695f7430a440dd09e", func := "quillward/quilllaw.LyndonSays", spec := "lyndonSays", inPlace := ["internal/abi.NoEscape", "internal/bytealg.MakeNoZero"], apart := false, narrowed := true }
def LyndonSaysUptoSaid : Prop := lyndonSaysUptoRow.holds Try.pinned (OpenSpec.upto lyndonSaysSpec)

/-- 'quilllaw.LyndonNext', WHERE WHAT IT READS IS OF BULK AT MOST 1048576: true; the input reads as it did. -/
def lyndonNextUptoRow : OpenClaim := { program := "ytddejiblgodgkaa", sum := "5de1a1659aff9fbab16dcd3005996dd8327e9fc3cb013ea695f7430a440dd09e", func := "quillward/quilllaw.LyndonNext", spec := "lyndonNext", inPlace := ["internal/abi.NoEscape", "internal/bytealg.MakeNoZero"], apart := false, narrowed := true }
def LyndonNextUptoSaid : Prop := lyndonNextUptoRow.holds Try.pinned (OpenSpec.upto lyndonNextSpec)

/-- 'quillkeep.LyndonOne', WHERE WHAT IT READS IS OF BULK AT MOST 1048576: true; the input reads as it did. -/
def lyndonOneUptoRow : OpenClaim := { program := "ytddejiblgodgkaa", sum := "5de1a1659aff9fbab16dcd3005996dd8327e9fc3cb013ea695f7430a440dd09e", func := "quillward/quillkeep.LyndonOne", spec := "lyndonOne", inPlace := ["internal/abi.NoEscape", "internal/bytealg.MakeNoZero"], apart := false, narrowed := true }
def LyndonOneUptoSaid : Prop := lyndonOneUptoRow.holds Try.pinned (OpenSpec.upto lyndonOneSpec)

/-- 'quillkeep.LyndonJoin', WHERE WHAT IT READS IS OF BULK AT MOST 1048576: true; the input reads as it did. -/
def lyndonJoinUptoRow : OpenClaim := { program := "ytddejiblgodgkaa", sum := "5de1a1659aff9fbab16dcd3005996dd8327e9fc3cb013ea695f7430a440dd09e", func := "quillward/quillkeep.LyndonJoin", spec := "lyndonJoin", unfollowed := true, recurses := true, apart := false, narrowed := true }
def LyndonJoinUptoSaid : Prop := lyndonJoinUptoRow.holds Try.pinned (OpenSpec.upto lyndonJoinSpec)

/-- 'quillkeep.LyndonEnds', WHERE WHAT IT READS IS OF BULK AT MOST 1048576: true; the input reads as it did. -/
def lyndonEndsUptoRow : OpenClaim := { program := "ytddejiblgodgkaa", sum := "5de1a1659aff9fbab16dcd3005996dd8327e9fc3cb013ea695f7430a440dd09e", func := "quillward/quillkeep.LyndonEnds", spec := "lyndonEnds", apart := false, narrowed := true }
def LyndonEndsUptoSaid : Prop := lyndonEndsUptoRow.holds Try.pinned (OpenSpec.upto lyndonEndsSpec)

/-- 'quillkeep.LyndonTurns', WHERE WHAT IT READS IS OF BULK AT MOST 1048576: true; the input reads as it did. -/
def lyndonTurnsUptoRow : OpenClaim := { program := "ytddejiblgodgkaa", sum := "5de1a1659aff9fbab16dcd3005996dd8327e9fc3cb013ea695f7430a440dd09e", func := "quillward/quillkeep.LyndonTurns", spec := "lyndonTurns", unfollowed := true, recurses := true, apart := false, narrowed := true }
def LyndonTurnsUptoSaid : Prop := lyndonTurnsUptoRow.holds Try.pinned (OpenSpec.upto lyndonTurnsSpec)

/-- 'quillkeep.LyndonDuval', WHERE WHAT IT READS IS OF BULK AT MOST 1048576: true; the input reads as it did. -/
def lyndonDuvalUptoRow : OpenClaim := { program := "ytddejiblgodgkaa", sum := "5de1a1659aff9fbab16dcd3005996dd8327e9fc3cb013ea695f7430a440dd09e", func := "quillward/quillkeep.LyndonDuval", spec := "lyndonDuval", inPlace := ["internal/abi.NoEscape", "internal/bytealg.MakeNoZero"], unfollowed := true, recurses := true, apart := false, narrowed := true }
def LyndonDuvalUptoSaid : Prop := lyndonDuvalUptoRow.holds Try.pinned (OpenSpec.upto lyndonDuvalSpec)

end Rows
end Go.Proofs.Ytddejiblgodgkaa
