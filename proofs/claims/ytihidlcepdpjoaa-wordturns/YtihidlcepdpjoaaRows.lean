/-
  No cell of these rows narrows 'for every input' (looked for: loops, veiled, ifaces, maps, wideKeys, modest, calm, conditions, laid).
  DERIVED. THE GIVEN ROWS OF THIS SEAT. 7 by the template 'for every input the law returns true; each argument reads behind the call as it read before'; 0 by the template 'total and deterministic' (their statements: YtihidlcepdpjoaaTotals.lean).
  GIVEN WITH THE SEED: the statements are not yours to turn. If you find one false, say at which input.
  Laid BY PROGRAM, IN A SANDBOX (cutbox-rows.mjs): the forced cells as the released guide's own fill.sh prints them over the translation c41e9bcc1ff59871… (all of the seat's roots in one cut). By AI agents, Wed Nov 11 2026. No macro, syntax, notation, axiom, sorry.
-/
import Derived.Test.YtihidlcepdpjoaaChecked
import GoSem.Claim
import GoSem.ClaimJoined
import GoSem.ClaimMapViews
import Derived.JoinedTies
import Derived.KernelRfl
namespace Go.Proofs.Ytihidlcepdpjoaa
/- THE CELL 'sum', in the pinned program and in every row, IS THE sha256 OF THE DUMP (.gsa) THAT YtihidlcepdpjoaaProg.lean LOADS. Nothing in Lean hashes anything: it is a label: what it is worth is what the hold of that sum in a sandbox is worth. -/
noncomputable def Try.pinned : Pinned := { name := "ytihidlcepdpjoaa", sum := "c41e9bcc1ff5987149db70f65e9c43bc6951ba2ca633a350006a815b36d9d0e5", checked := Try.checked }
namespace Rows
def none {H : Type} : Left H := { results := [], args := [] }

/-- 'quilllaw.Names': WHATEVER THE INPUT: true; the input reads as it did. -/
def namesSpec : ChangeSpec := { name := "names", fn := fun _ => fun
  | [] => { results := [.lit (.bool true)], args := [] }
  | _ => none }
def namesRow : OpenClaim := { program := "ytihidlcepdpjoaa", sum := "c41e9bcc1ff5987149db70f65e9c43bc6951ba2ca633a350006a815b36d9d0e5", func := "quillward/quilllaw.Names", spec := "names", apart := false }
def NamesSaid : Prop := namesRow.holds Try.pinned (OpenSpec.ofChange namesSpec)

/-- ITS FALSE NEIGHBOUR: 'it returns false'. Refute it at one input. -/
def namesWrong : ChangeSpec := { name := "names", fn := fun _ => fun
  | [] => { results := [.lit (.bool false)], args := [] }
  | _ => none }
def NamesWrongFalsely : Prop := namesRow.holds Try.pinned (OpenSpec.ofChange namesWrong)

/-- 'quilllaw.WordSays': WHATEVER THE INPUT: true; the input reads as it did. -/
def wordSaysSpec : ChangeSpec := { name := "wordSays", fn := fun _ => fun
  | [d] => { results := [.lit (.bool true)], args := [d] }
  | _ => none }
def wordSaysRow : OpenClaim := { program := "ytihidlcepdpjoaa", sum := "c41e9bcc1ff5987149db70f65e9c43bc6951ba2ca633a350006a815b36d9d0e5", func := "quillward/quilllaw.WordSays", spec := "wordSays", inPlace := ["internal/abi.NoEscape", "internal/bytealg.MakeNoZero"], apart := false }
def WordSaysSaid : Prop := wordSaysRow.holds Try.pinned (OpenSpec.ofChange wordSaysSpec)

/-- ITS FALSE NEIGHBOUR: 'it returns false'. Refute it at one input. -/
def wordSaysWrong : ChangeSpec := { name := "wordSays", fn := fun _ => fun
  | [d] => { results := [.lit (.bool false)], args := [d] }
  | _ => none }
def WordSaysWrongFalsely : Prop := wordSaysRow.holds Try.pinned (OpenSpec.ofChange wordSaysWrong)

/-- 'quillkeep.WordFine': WHATEVER THE INPUT: true; the input reads as it did. -/
def wordFineSpec : ChangeSpec := { name := "wordFine", fn := fun _ => fun
  | [d] => { results := [.lit (.bool true)], args := [d] }
  | _ => none }
def wordFineRow : OpenClaim := { program := "ytihidlcepdpjoaa", sum := "c41e9bcc1ff5987149db70f65e9c43bc6951ba2ca633a350006a815b36d9d0e5", func := "quillward/quillkeep.WordFine", spec := "wordFine", unfollowed := true, recurses := true, apart := false }
def WordFineSaid : Prop := wordFineRow.holds Try.pinned (OpenSpec.ofChange wordFineSpec)

/-- ITS FALSE NEIGHBOUR: 'it returns false'. Refute it at one input. -/
def wordFineWrong : ChangeSpec := { name := "wordFine", fn := fun _ => fun
  | [d] => { results := [.lit (.bool false)], args := [d] }
  | _ => none }
def WordFineWrongFalsely : Prop := wordFineRow.holds Try.pinned (OpenSpec.ofChange wordFineWrong)

/-- 'quillkeep.WordPowers': WHATEVER THE INPUT: true; the input reads as it did. -/
def wordPowersSpec : ChangeSpec := { name := "wordPowers", fn := fun _ => fun
  | [d1, d2] => { results := [.lit (.bool true)], args := [d1, d2] }
  | _ => none }
def wordPowersRow : OpenClaim := { program := "ytihidlcepdpjoaa", sum := "c41e9bcc1ff5987149db70f65e9c43bc6951ba2ca633a350006a815b36d9d0e5", func := "quillward/quillkeep.WordPowers", spec := "wordPowers", unfollowed := true, recurses := true, apart := false }
def WordPowersSaid : Prop := wordPowersRow.holds Try.pinned (OpenSpec.ofChange wordPowersSpec)

/-- ITS FALSE NEIGHBOUR: 'it returns false'. Refute it at one input. -/
def wordPowersWrong : ChangeSpec := { name := "wordPowers", fn := fun _ => fun
  | [d1, d2] => { results := [.lit (.bool false)], args := [d1, d2] }
  | _ => none }
def WordPowersWrongFalsely : Prop := wordPowersRow.holds Try.pinned (OpenSpec.ofChange wordPowersWrong)

/-- 'quillkeep.WordBorders': WHATEVER THE INPUT: true; the input reads as it did. -/
def wordBordersSpec : ChangeSpec := { name := "wordBorders", fn := fun _ => fun
  | [d] => { results := [.lit (.bool true)], args := [d] }
  | _ => none }
def wordBordersRow : OpenClaim := { program := "ytihidlcepdpjoaa", sum := "c41e9bcc1ff5987149db70f65e9c43bc6951ba2ca633a350006a815b36d9d0e5", func := "quillward/quillkeep.WordBorders", spec := "wordBorders", unfollowed := true, recurses := true, apart := false }
def WordBordersSaid : Prop := wordBordersRow.holds Try.pinned (OpenSpec.ofChange wordBordersSpec)

/-- ITS FALSE NEIGHBOUR: 'it returns false'. Refute it at one input. -/
def wordBordersWrong : ChangeSpec := { name := "wordBorders", fn := fun _ => fun
  | [d] => { results := [.lit (.bool false)], args := [d] }
  | _ => none }
def WordBordersWrongFalsely : Prop := wordBordersRow.holds Try.pinned (OpenSpec.ofChange wordBordersWrong)

/-- 'quillkeep.WordRoot': WHATEVER THE INPUT: true; the input reads as it did. -/
def wordRootSpec : ChangeSpec := { name := "wordRoot", fn := fun _ => fun
  | [d1, d2] => { results := [.lit (.bool true)], args := [d1, d2] }
  | _ => none }
def wordRootRow : OpenClaim := { program := "ytihidlcepdpjoaa", sum := "c41e9bcc1ff5987149db70f65e9c43bc6951ba2ca633a350006a815b36d9d0e5", func := "quillward/quillkeep.WordRoot", spec := "wordRoot", inPlace := ["internal/abi.NoEscape", "internal/bytealg.MakeNoZero"], unfollowed := true, recurses := true, apart := false }
def WordRootSaid : Prop := wordRootRow.holds Try.pinned (OpenSpec.ofChange wordRootSpec)

/-- ITS FALSE NEIGHBOUR: 'it returns false'. Refute it at one input. -/
def wordRootWrong : ChangeSpec := { name := "wordRoot", fn := fun _ => fun
  | [d1, d2] => { results := [.lit (.bool false)], args := [d1, d2] }
  | _ => none }
def WordRootWrongFalsely : Prop := wordRootRow.holds Try.pinned (OpenSpec.ofChange wordRootWrong)

/-- 'quillkeep.WordTurns': WHATEVER THE INPUT: true; the input reads as it did. -/
def wordTurnsSpec : ChangeSpec := { name := "wordTurns", fn := fun _ => fun
  | [d1, d2] => { results := [.lit (.bool true)], args := [d1, d2] }
  | _ => none }
def wordTurnsRow : OpenClaim := { program := "ytihidlcepdpjoaa", sum := "c41e9bcc1ff5987149db70f65e9c43bc6951ba2ca633a350006a815b36d9d0e5", func := "quillward/quillkeep.WordTurns", spec := "wordTurns", unfollowed := true, recurses := true, apart := false }
def WordTurnsSaid : Prop := wordTurnsRow.holds Try.pinned (OpenSpec.ofChange wordTurnsSpec)

/-- ITS FALSE NEIGHBOUR: 'it returns false'. Refute it at one input. -/
def wordTurnsWrong : ChangeSpec := { name := "wordTurns", fn := fun _ => fun
  | [d1, d2] => { results := [.lit (.bool false)], args := [d1, d2] }
  | _ => none }
def WordTurnsWrongFalsely : Prop := wordTurnsRow.holds Try.pinned (OpenSpec.ofChange wordTurnsWrong)

/- THE SECOND FORM. 'bulk': how many values and letters a reading holds, each counted each time it is reached (what is shared counts as often as it is met; a slice's spare places count too). A statement '..UptoSaid' is the law's where the arguments, and the package variables that the reading takes, are together of bulk at most 1048576: NARROWER than '..Said'. Prove '..Said' where nothing that the law and all that it calls make is longer than what came in: it says more and counts as full. Else prove '..UptoSaid'. A law counts once. -/
mutual
def uptoBulk {H : Type} : DataW H → Nat
  | .lit (.string bytes) => bytes.length + 1
  | .lit _ => 1
  | .nil => 1
  | .ptr d => uptoBulk d + 1
  | .slice elems spare => uptoBulkAll elems + uptoBulkAll spare + 1
  | .agg parts => uptoBulkAll parts + 1
  | .iface _ d => uptoBulk d + 1
  | .map entries => uptoBulkEntries entries + 1
  | .held _ => 1
def uptoBulkAll {H : Type} : List (DataW H) → Nat
  | [] => 0
  | d :: r => uptoBulk d + uptoBulkAll r
def uptoBulkEntries {H : Type} : List (Lit × DataW H) → Nat
  | [] => 0
  | x :: r => uptoBulkEntry x + uptoBulkEntries r
def uptoBulkEntry {H : Type} : Lit × DataW H → Nat
  | (.string bytes, d) => bytes.length + uptoBulk d + 1
  | (_, d) => uptoBulk d + 1
 end
def uptoSmall : (H : Type) → List (DataW H) → Bool := fun _ ds => decide (uptoBulkAll ds ≤ 1048576)
def OpenSpec.upto (s : _root_.Go.ChangeSpec) : _root_.Go.OpenSpec := { _root_.Go.OpenSpec.ofChange s with cond := some uptoSmall }

/-- 'quilllaw.Names', WHERE WHAT IT READS IS OF BULK AT MOST 1048576: true; the input reads as it did. -/
def namesUptoRow : OpenClaim := { program := "ytihidlcepdpjoaa", sum := "c41e9bcc1ff5987149db70f65e9c43bc6951ba2ca633a350006a815b36d9d0e5", func := "quillward/quilllaw.Names", spec := "names", apart := false, narrowed := true }
def NamesUptoSaid : Prop := namesUptoRow.holds Try.pinned (OpenSpec.upto namesSpec)

/-- 'quilllaw.WordSays', WHERE WHAT IT READS IS OF BULK AT MOST 1048576: true; the input reads as it did. -/
def wordSaysUptoRow : OpenClaim := { program := "ytihidlcepdpjoaa", sum := "c41e9bcc1ff5987149db70f65e9c43bc6951ba2ca633a350006a815b36d9d0e5", func := "quillward/quilllaw.WordSays", spec := "wordSays", inPlace := ["internal/abi.NoEscape", "internal/bytealg.MakeNoZero"], apart := false, narrowed := true }
def WordSaysUptoSaid : Prop := wordSaysUptoRow.holds Try.pinned (OpenSpec.upto wordSaysSpec)

/-- 'quillkeep.WordFine', WHERE WHAT IT READS IS OF BULK AT MOST 1048576: true; the input reads as it did. -/
def wordFineUptoRow : OpenClaim := { program := "ytihidlcepdpjoaa", sum := "c41e9bcc1ff5987149db70f65e9c43bc6951ba2ca633a350006a815b36d9d0e5", func := "quillward/quillkeep.WordFine", spec := "wordFine", unfollowed := true, recurses := true, apart := false, narrowed := true }
def WordFineUptoSaid : Prop := wordFineUptoRow.holds Try.pinned (OpenSpec.upto wordFineSpec)

/-- 'quillkeep.WordPowers', WHERE WHAT IT READS IS OF BULK AT MOST 1048576: true; the input reads as it did. -/
def wordPowersUptoRow : OpenClaim := { program := "ytihidlcepdpjoaa", sum := "c41e9bcc1ff5987149db70f65e9c43bc6951ba2ca633a350006a815b36d9d0e5", func := "quillward/quillkeep.WordPowers", spec := "wordPowers", unfollowed := true, recurses := true, apart := false, narrowed := true }
def WordPowersUptoSaid : Prop := wordPowersUptoRow.holds Try.pinned (OpenSpec.upto wordPowersSpec)

/-- 'quillkeep.WordBorders', WHERE WHAT IT READS IS OF BULK AT MOST 1048576: true; the input reads as it did. -/
def wordBordersUptoRow : OpenClaim := { program := "ytihidlcepdpjoaa", sum := "c41e9bcc1ff5987149db70f65e9c43bc6951ba2ca633a350006a815b36d9d0e5", func := "quillward/quillkeep.WordBorders", spec := "wordBorders", unfollowed := true, recurses := true, apart := false, narrowed := true }
def WordBordersUptoSaid : Prop := wordBordersUptoRow.holds Try.pinned (OpenSpec.upto wordBordersSpec)

/-- 'quillkeep.WordRoot', WHERE WHAT IT READS IS OF BULK AT MOST 1048576: true; the input reads as it did. -/
def wordRootUptoRow : OpenClaim := { program := "ytihidlcepdpjoaa", sum := "c41e9bcc1ff5987149db70f65e9c43bc6951ba2ca633a350006a815b36d9d0e5", func := "quillward/quillkeep.WordRoot", spec := "wordRoot", inPlace := ["internal/abi.NoEscape", "internal/bytealg.MakeNoZero"], unfollowed := true, recurses := true, apart := false, narrowed := true }
def WordRootUptoSaid : Prop := wordRootUptoRow.holds Try.pinned (OpenSpec.upto wordRootSpec)

/-- 'quillkeep.WordTurns', WHERE WHAT IT READS IS OF BULK AT MOST 1048576: true; the input reads as it did. -/
def wordTurnsUptoRow : OpenClaim := { program := "ytihidlcepdpjoaa", sum := "c41e9bcc1ff5987149db70f65e9c43bc6951ba2ca633a350006a815b36d9d0e5", func := "quillward/quillkeep.WordTurns", spec := "wordTurns", unfollowed := true, recurses := true, apart := false, narrowed := true }
def WordTurnsUptoSaid : Prop := wordTurnsUptoRow.holds Try.pinned (OpenSpec.upto wordTurnsSpec)

end Rows
end Go.Proofs.Ytihidlcepdpjoaa
