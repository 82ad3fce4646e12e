/-
  No cell of these rows narrows 'for every input' (looked for: loops, veiled, ifaces, maps, wideKeys, modest, calm, conditions, laid).
  DERIVED. THE GIVEN ROWS OF THIS SEAT. 15 by the template 'for every input the law returns true; each argument reads behind the call as it read before'; 0 by the template 'total and deterministic' (their statements: YtfjedcjpgmledaaTotals.lean).
  GIVEN WITH THE SEED: the statements are not yours to turn. If you find one false, say at which input.
  Laid BY PROGRAM, IN A SANDBOX (cutbox-rows.mjs): the forced cells as the released guide's own fill.sh prints them over the translation d4b6f265e4578a09… (all of the seat's roots in one cut). By AI agents, Wed Nov 11 2026. No macro, syntax, notation, axiom, sorry.
-/
import Derived.Test.YtfjedcjpgmledaaChecked
import GoSem.Claim
import GoSem.ClaimJoined
import GoSem.ClaimMapViews
import Derived.JoinedTies
import Derived.KernelRfl
namespace Go.Proofs.Ytfjedcjpgmledaa
/- THE CELL 'sum', in the pinned program and in every row, IS THE sha256 OF THE DUMP (.gsa) THAT YtfjedcjpgmledaaProg.lean LOADS. Nothing in Lean hashes anything: it is a label: what it is worth is what the hold of that sum in a sandbox is worth. -/
noncomputable def Try.pinned : Pinned := { name := "ytfjedcjpgmledaa", sum := "d4b6f265e4578a0988a250b253896ea1b7de9b7d87d71581397cb07503e5181c", checked := Try.checked }
namespace Rows
def none {H : Type} : Left H := { results := [], args := [] }

/-- 'laws.FnTables': WHATEVER THE INPUT: true; the input reads as it did. -/
def fnTablesSpec : ChangeSpec := { name := "fnTables", fn := fun _ => fun
  | [d] => { results := [.lit (.bool true)], args := [d] }
  | _ => none }
def fnTablesRow : OpenClaim := { program := "ytfjedcjpgmledaa", sum := "d4b6f265e4578a0988a250b253896ea1b7de9b7d87d71581397cb07503e5181c", func := "loop.example/g01248/laws.FnTables", spec := "fnTables", inPlace := ["internal/abi.NoEscape", "internal/bytealg.MakeNoZero"], unfollowed := true, recurses := true, apart := false }
def FnTablesSaid : Prop := fnTablesRow.holds Try.pinned (OpenSpec.ofChange fnTablesSpec)

/-- ITS FALSE NEIGHBOUR: 'it returns false'. Refute it at one input. -/
def fnTablesWrong : ChangeSpec := { name := "fnTables", fn := fun _ => fun
  | [d] => { results := [.lit (.bool false)], args := [d] }
  | _ => none }
def FnTablesWrongFalsely : Prop := fnTablesRow.holds Try.pinned (OpenSpec.ofChange fnTablesWrong)

/-- 'laws.FnExactIsTable': WHATEVER THE INPUT: true; the input reads as it did. -/
def fnExactIsTableSpec : ChangeSpec := { name := "fnExactIsTable", fn := fun _ => fun
  | [d] => { results := [.lit (.bool true)], args := [d] }
  | _ => none }
def fnExactIsTableRow : OpenClaim := { program := "ytfjedcjpgmledaa", sum := "d4b6f265e4578a0988a250b253896ea1b7de9b7d87d71581397cb07503e5181c", func := "loop.example/g01248/laws.FnExactIsTable", spec := "fnExactIsTable", apart := false }
def FnExactIsTableSaid : Prop := fnExactIsTableRow.holds Try.pinned (OpenSpec.ofChange fnExactIsTableSpec)

/-- ITS FALSE NEIGHBOUR: 'it returns false'. Refute it at one input. -/
def fnExactIsTableWrong : ChangeSpec := { name := "fnExactIsTable", fn := fun _ => fun
  | [d] => { results := [.lit (.bool false)], args := [d] }
  | _ => none }
def FnExactIsTableWrongFalsely : Prop := fnExactIsTableRow.holds Try.pinned (OpenSpec.ofChange fnExactIsTableWrong)

/-- 'laws.FnExactIsMessage': WHATEVER THE INPUT: true; the input reads as it did. -/
def fnExactIsMessageSpec : ChangeSpec := { name := "fnExactIsMessage", fn := fun _ => fun
  | [d1, d2] => { results := [.lit (.bool true)], args := [d1, d2] }
  | _ => none }
def fnExactIsMessageRow : OpenClaim := { program := "ytfjedcjpgmledaa", sum := "d4b6f265e4578a0988a250b253896ea1b7de9b7d87d71581397cb07503e5181c", func := "loop.example/g01248/laws.FnExactIsMessage", spec := "fnExactIsMessage", apart := false }
def FnExactIsMessageSaid : Prop := fnExactIsMessageRow.holds Try.pinned (OpenSpec.ofChange fnExactIsMessageSpec)

/-- ITS FALSE NEIGHBOUR: 'it returns false'. Refute it at one input. -/
def fnExactIsMessageWrong : ChangeSpec := { name := "fnExactIsMessage", fn := fun _ => fun
  | [d1, d2] => { results := [.lit (.bool false)], args := [d1, d2] }
  | _ => none }
def FnExactIsMessageWrongFalsely : Prop := fnExactIsMessageRow.holds Try.pinned (OpenSpec.ofChange fnExactIsMessageWrong)

/-- 'laws.FnExactIsSignal': WHATEVER THE INPUT: true; the input reads as it did. -/
def fnExactIsSignalSpec : ChangeSpec := { name := "fnExactIsSignal", fn := fun _ => fun
  | [d] => { results := [.lit (.bool true)], args := [d] }
  | _ => none }
def fnExactIsSignalRow : OpenClaim := { program := "ytfjedcjpgmledaa", sum := "d4b6f265e4578a0988a250b253896ea1b7de9b7d87d71581397cb07503e5181c", func := "loop.example/g01248/laws.FnExactIsSignal", spec := "fnExactIsSignal", apart := false }
def FnExactIsSignalSaid : Prop := fnExactIsSignalRow.holds Try.pinned (OpenSpec.ofChange fnExactIsSignalSpec)

/-- ITS FALSE NEIGHBOUR: 'it returns false'. Refute it at one input. -/
def fnExactIsSignalWrong : ChangeSpec := { name := "fnExactIsSignal", fn := fun _ => fun
  | [d] => { results := [.lit (.bool false)], args := [d] }
  | _ => none }
def FnExactIsSignalWrongFalsely : Prop := fnExactIsSignalRow.holds Try.pinned (OpenSpec.ofChange fnExactIsSignalWrong)

/-- 'laws.FnExactMarksOf': WHATEVER THE INPUT: true; the input reads as it did. -/
def fnExactMarksOfSpec : ChangeSpec := { name := "fnExactMarksOf", fn := fun _ => fun
  | [d1, d2] => { results := [.lit (.bool true)], args := [d1, d2] }
  | _ => none }
def fnExactMarksOfRow : OpenClaim := { program := "ytfjedcjpgmledaa", sum := "d4b6f265e4578a0988a250b253896ea1b7de9b7d87d71581397cb07503e5181c", func := "loop.example/g01248/laws.FnExactMarksOf", spec := "fnExactMarksOf", apart := false }
def FnExactMarksOfSaid : Prop := fnExactMarksOfRow.holds Try.pinned (OpenSpec.ofChange fnExactMarksOfSpec)

/-- ITS FALSE NEIGHBOUR: 'it returns false'. Refute it at one input. -/
def fnExactMarksOfWrong : ChangeSpec := { name := "fnExactMarksOf", fn := fun _ => fun
  | [d1, d2] => { results := [.lit (.bool false)], args := [d1, d2] }
  | _ => none }
def FnExactMarksOfWrongFalsely : Prop := fnExactMarksOfRow.holds Try.pinned (OpenSpec.ofChange fnExactMarksOfWrong)

/-- 'laws.FnExactLetterOf': WHATEVER THE INPUT: true; the input reads as it did. -/
def fnExactLetterOfSpec : ChangeSpec := { name := "fnExactLetterOf", fn := fun _ => fun
  | [d1, d2] => { results := [.lit (.bool true)], args := [d1, d2] }
  | _ => none }
def fnExactLetterOfRow : OpenClaim := { program := "ytfjedcjpgmledaa", sum := "d4b6f265e4578a0988a250b253896ea1b7de9b7d87d71581397cb07503e5181c", func := "loop.example/g01248/laws.FnExactLetterOf", spec := "fnExactLetterOf", apart := false }
def FnExactLetterOfSaid : Prop := fnExactLetterOfRow.holds Try.pinned (OpenSpec.ofChange fnExactLetterOfSpec)

/-- ITS FALSE NEIGHBOUR: 'it returns false'. Refute it at one input. -/
def fnExactLetterOfWrong : ChangeSpec := { name := "fnExactLetterOf", fn := fun _ => fun
  | [d1, d2] => { results := [.lit (.bool false)], args := [d1, d2] }
  | _ => none }
def FnExactLetterOfWrongFalsely : Prop := fnExactLetterOfRow.holds Try.pinned (OpenSpec.ofChange fnExactLetterOfWrong)

/-- 'laws.FnExactDecodeSignal': WHATEVER THE INPUT: true; the input reads as it did. -/
def fnExactDecodeSignalSpec : ChangeSpec := { name := "fnExactDecodeSignal", fn := fun _ => fun
  | [d1, d2] => { results := [.lit (.bool true)], args := [d1, d2] }
  | _ => none }
def fnExactDecodeSignalRow : OpenClaim := { program := "ytfjedcjpgmledaa", sum := "d4b6f265e4578a0988a250b253896ea1b7de9b7d87d71581397cb07503e5181c", func := "loop.example/g01248/laws.FnExactDecodeSignal", spec := "fnExactDecodeSignal", apart := false }
def FnExactDecodeSignalSaid : Prop := fnExactDecodeSignalRow.holds Try.pinned (OpenSpec.ofChange fnExactDecodeSignalSpec)

/-- ITS FALSE NEIGHBOUR: 'it returns false'. Refute it at one input. -/
def fnExactDecodeSignalWrong : ChangeSpec := { name := "fnExactDecodeSignal", fn := fun _ => fun
  | [d1, d2] => { results := [.lit (.bool false)], args := [d1, d2] }
  | _ => none }
def FnExactDecodeSignalWrongFalsely : Prop := fnExactDecodeSignalRow.holds Try.pinned (OpenSpec.ofChange fnExactDecodeSignalWrong)

/-- 'laws.FnExactTimeOfMarks': WHATEVER THE INPUT: true; the input reads as it did. -/
def fnExactTimeOfMarksSpec : ChangeSpec := { name := "fnExactTimeOfMarks", fn := fun _ => fun
  | [d] => { results := [.lit (.bool true)], args := [d] }
  | _ => none }
def fnExactTimeOfMarksRow : OpenClaim := { program := "ytfjedcjpgmledaa", sum := "d4b6f265e4578a0988a250b253896ea1b7de9b7d87d71581397cb07503e5181c", func := "loop.example/g01248/laws.FnExactTimeOfMarks", spec := "fnExactTimeOfMarks", apart := false }
def FnExactTimeOfMarksSaid : Prop := fnExactTimeOfMarksRow.holds Try.pinned (OpenSpec.ofChange fnExactTimeOfMarksSpec)

/-- ITS FALSE NEIGHBOUR: 'it returns false'. Refute it at one input. -/
def fnExactTimeOfMarksWrong : ChangeSpec := { name := "fnExactTimeOfMarks", fn := fun _ => fun
  | [d] => { results := [.lit (.bool false)], args := [d] }
  | _ => none }
def FnExactTimeOfMarksWrongFalsely : Prop := fnExactTimeOfMarksRow.holds Try.pinned (OpenSpec.ofChange fnExactTimeOfMarksWrong)

/-- 'laws.FnExactTimeOfSignal': WHATEVER THE INPUT: true; the input reads as it did. -/
def fnExactTimeOfSignalSpec : ChangeSpec := { name := "fnExactTimeOfSignal", fn := fun _ => fun
  | [d] => { results := [.lit (.bool true)], args := [d] }
  | _ => none }
def fnExactTimeOfSignalRow : OpenClaim := { program := "ytfjedcjpgmledaa", sum := "d4b6f265e4578a0988a250b253896ea1b7de9b7d87d71581397cb07503e5181c", func := "loop.example/g01248/laws.FnExactTimeOfSignal", spec := "fnExactTimeOfSignal", apart := false }
def FnExactTimeOfSignalSaid : Prop := fnExactTimeOfSignalRow.holds Try.pinned (OpenSpec.ofChange fnExactTimeOfSignalSpec)

/-- ITS FALSE NEIGHBOUR: 'it returns false'. Refute it at one input. -/
def fnExactTimeOfSignalWrong : ChangeSpec := { name := "fnExactTimeOfSignal", fn := fun _ => fun
  | [d] => { results := [.lit (.bool false)], args := [d] }
  | _ => none }
def FnExactTimeOfSignalWrongFalsely : Prop := fnExactTimeOfSignalRow.holds Try.pinned (OpenSpec.ofChange fnExactTimeOfSignalWrong)

/-- 'laws.FnExactOppositeTable': WHATEVER THE INPUT: true; the input reads as it did. -/
def fnExactOppositeTableSpec : ChangeSpec := { name := "fnExactOppositeTable", fn := fun _ => fun
  | [d] => { results := [.lit (.bool true)], args := [d] }
  | _ => none }
def fnExactOppositeTableRow : OpenClaim := { program := "ytfjedcjpgmledaa", sum := "d4b6f265e4578a0988a250b253896ea1b7de9b7d87d71581397cb07503e5181c", func := "loop.example/g01248/laws.FnExactOppositeTable", spec := "fnExactOppositeTable", apart := false }
def FnExactOppositeTableSaid : Prop := fnExactOppositeTableRow.holds Try.pinned (OpenSpec.ofChange fnExactOppositeTableSpec)

/-- ITS FALSE NEIGHBOUR: 'it returns false'. Refute it at one input. -/
def fnExactOppositeTableWrong : ChangeSpec := { name := "fnExactOppositeTable", fn := fun _ => fun
  | [d] => { results := [.lit (.bool false)], args := [d] }
  | _ => none }
def FnExactOppositeTableWrongFalsely : Prop := fnExactOppositeTableRow.holds Try.pinned (OpenSpec.ofChange fnExactOppositeTableWrong)

/-- 'laws.FnExactBackTable': WHATEVER THE INPUT: true; the input reads as it did. -/
def fnExactBackTableSpec : ChangeSpec := { name := "fnExactBackTable", fn := fun _ => fun
  | [d] => { results := [.lit (.bool true)], args := [d] }
  | _ => none }
def fnExactBackTableRow : OpenClaim := { program := "ytfjedcjpgmledaa", sum := "d4b6f265e4578a0988a250b253896ea1b7de9b7d87d71581397cb07503e5181c", func := "loop.example/g01248/laws.FnExactBackTable", spec := "fnExactBackTable", apart := false }
def FnExactBackTableSaid : Prop := fnExactBackTableRow.holds Try.pinned (OpenSpec.ofChange fnExactBackTableSpec)

/-- ITS FALSE NEIGHBOUR: 'it returns false'. Refute it at one input. -/
def fnExactBackTableWrong : ChangeSpec := { name := "fnExactBackTable", fn := fun _ => fun
  | [d] => { results := [.lit (.bool false)], args := [d] }
  | _ => none }
def FnExactBackTableWrongFalsely : Prop := fnExactBackTableRow.holds Try.pinned (OpenSpec.ofChange fnExactBackTableWrong)

/-- 'laws.FnExactAddLetter': WHATEVER THE INPUT: true; the input reads as it did. -/
def fnExactAddLetterSpec : ChangeSpec := { name := "fnExactAddLetter", fn := fun _ => fun
  | [d1, d2] => { results := [.lit (.bool true)], args := [d1, d2] }
  | _ => none }
def fnExactAddLetterRow : OpenClaim := { program := "ytfjedcjpgmledaa", sum := "d4b6f265e4578a0988a250b253896ea1b7de9b7d87d71581397cb07503e5181c", func := "loop.example/g01248/laws.FnExactAddLetter", spec := "fnExactAddLetter", apart := false }
def FnExactAddLetterSaid : Prop := fnExactAddLetterRow.holds Try.pinned (OpenSpec.ofChange fnExactAddLetterSpec)

/-- ITS FALSE NEIGHBOUR: 'it returns false'. Refute it at one input. -/
def fnExactAddLetterWrong : ChangeSpec := { name := "fnExactAddLetter", fn := fun _ => fun
  | [d1, d2] => { results := [.lit (.bool false)], args := [d1, d2] }
  | _ => none }
def FnExactAddLetterWrongFalsely : Prop := fnExactAddLetterRow.holds Try.pinned (OpenSpec.ofChange fnExactAddLetterWrong)

/-- 'laws.FnExactSwapLetters': WHATEVER THE INPUT: true; the input reads as it did. -/
def fnExactSwapLettersSpec : ChangeSpec := { name := "fnExactSwapLetters", fn := fun _ => fun
  | [d1, d2, d3] => { results := [.lit (.bool true)], args := [d1, d2, d3] }
  | _ => none }
def fnExactSwapLettersRow : OpenClaim := { program := "ytfjedcjpgmledaa", sum := "d4b6f265e4578a0988a250b253896ea1b7de9b7d87d71581397cb07503e5181c", func := "loop.example/g01248/laws.FnExactSwapLetters", spec := "fnExactSwapLetters", apart := false }
def FnExactSwapLettersSaid : Prop := fnExactSwapLettersRow.holds Try.pinned (OpenSpec.ofChange fnExactSwapLettersSpec)

/-- ITS FALSE NEIGHBOUR: 'it returns false'. Refute it at one input. -/
def fnExactSwapLettersWrong : ChangeSpec := { name := "fnExactSwapLetters", fn := fun _ => fun
  | [d1, d2, d3] => { results := [.lit (.bool false)], args := [d1, d2, d3] }
  | _ => none }
def FnExactSwapLettersWrongFalsely : Prop := fnExactSwapLettersRow.holds Try.pinned (OpenSpec.ofChange fnExactSwapLettersWrong)

/-- 'laws.FnExactTableText': WHATEVER THE INPUT: true; the input reads as it did. -/
def fnExactTableTextSpec : ChangeSpec := { name := "fnExactTableText", fn := fun _ => fun
  | [d] => { results := [.lit (.bool true)], args := [d] }
  | _ => none }
def fnExactTableTextRow : OpenClaim := { program := "ytfjedcjpgmledaa", sum := "d4b6f265e4578a0988a250b253896ea1b7de9b7d87d71581397cb07503e5181c", func := "loop.example/g01248/laws.FnExactTableText", spec := "fnExactTableText", inPlace := ["internal/abi.NoEscape", "internal/bytealg.MakeNoZero"], apart := false }
def FnExactTableTextSaid : Prop := fnExactTableTextRow.holds Try.pinned (OpenSpec.ofChange fnExactTableTextSpec)

/-- ITS FALSE NEIGHBOUR: 'it returns false'. Refute it at one input. -/
def fnExactTableTextWrong : ChangeSpec := { name := "fnExactTableText", fn := fun _ => fun
  | [d] => { results := [.lit (.bool false)], args := [d] }
  | _ => none }
def FnExactTableTextWrongFalsely : Prop := fnExactTableTextRow.holds Try.pinned (OpenSpec.ofChange fnExactTableTextWrong)

/-- 'laws.FnExactParseTable': WHATEVER THE INPUT: true; the input reads as it did. -/
def fnExactParseTableSpec : ChangeSpec := { name := "fnExactParseTable", fn := fun _ => fun
  | [d] => { results := [.lit (.bool true)], args := [d] }
  | _ => none }
def fnExactParseTableRow : OpenClaim := { program := "ytfjedcjpgmledaa", sum := "d4b6f265e4578a0988a250b253896ea1b7de9b7d87d71581397cb07503e5181c", func := "loop.example/g01248/laws.FnExactParseTable", spec := "fnExactParseTable", unfollowed := true, recurses := true, apart := false }
def FnExactParseTableSaid : Prop := fnExactParseTableRow.holds Try.pinned (OpenSpec.ofChange fnExactParseTableSpec)

/-- ITS FALSE NEIGHBOUR: 'it returns false'. Refute it at one input. -/
def fnExactParseTableWrong : ChangeSpec := { name := "fnExactParseTable", fn := fun _ => fun
  | [d] => { results := [.lit (.bool false)], args := [d] }
  | _ => none }
def FnExactParseTableWrongFalsely : Prop := fnExactParseTableRow.holds Try.pinned (OpenSpec.ofChange fnExactParseTableWrong)

/- THE SECOND FORM. 'bulk': how many values and letters a reading holds, each counted each time it is reached (what is shared counts as often as it is met; a slice's spare places count too). A statement '..UptoSaid' is the law's where the arguments, and the package variables that the reading takes, are together of bulk at most 1048576: NARROWER than '..Said'. Prove '..Said' where nothing that the law and all that it calls make is longer than what came in: it says more and counts as full. Else prove '..UptoSaid'. A law counts once. -/
mutual
def uptoBulk {H : Type} : DataW H → Nat
  | .lit (.string bytes) => bytes.length + 1
  | .lit _ => 1
  | .nil => 1
  | .ptr d => uptoBulk d + 1
  | .slice elems spare => uptoBulkAll elems + uptoBulkAll spare + 1
  | .agg parts => uptoBulkAll parts + 1
  | .iface _ d => uptoBulk d + 1
  | .map entries => uptoBulkEntries entries + 1
  | .held _ => 1
def uptoBulkAll {H : Type} : List (DataW H) → Nat
  | [] => 0
  | d :: r => uptoBulk d + uptoBulkAll r
def uptoBulkEntries {H : Type} : List (Lit × DataW H) → Nat
  | [] => 0
  | x :: r => uptoBulkEntry x + uptoBulkEntries r
def uptoBulkEntry {H : Type} : Lit × DataW H → Nat
  | (.string bytes, d) => bytes.length + uptoBulk d + 1
  | (_, d) => uptoBulk d + 1
 end
def uptoSmall : (H : Type) → List (DataW H) → Bool := fun _ ds => decide (uptoBulkAll ds ≤ 1048576)
def OpenSpec.upto (s : _root_.Go.ChangeSpec) : _root_.Go.OpenSpec := { _root_.Go.OpenSpec.ofChange s with cond := some uptoSmall }

/-- 'laws.FnTables', WHERE WHAT IT READS IS OF BULK AT MOST 1048576: true; the input reads as it did. -/
def fnTablesUptoRow : OpenClaim := { program := "ytfjedcjpgmledaa", sum := "d4b6f265e4578a0988a250b253896ea1b7de9b7d87d71581397cb07503e5181c", func := "loop.example/g01248/laws.FnTables", spec := "fnTables", inPlace := ["internal/abi.NoEscape", "internal/bytealg.MakeNoZero"], unfollowed := true, recurses := true, apart := false, narrowed := true }
def FnTablesUptoSaid : Prop := fnTablesUptoRow.holds Try.pinned (OpenSpec.upto fnTablesSpec)

/-- 'laws.FnExactIsTable', WHERE WHAT IT READS IS OF BULK AT MOST 1048576: true; the input reads as it did. -/
def fnExactIsTableUptoRow : OpenClaim := { program := "ytfjedcjpgmledaa", sum := "d4b6f265e4578a0988a250b253896ea1b7de9b7d87d71581397cb07503e5181c", func := "loop.example/g01248/laws.FnExactIsTable", spec := "fnExactIsTable", apart := false, narrowed := true }
def FnExactIsTableUptoSaid : Prop := fnExactIsTableUptoRow.holds Try.pinned (OpenSpec.upto fnExactIsTableSpec)

/-- 'laws.FnExactIsMessage', WHERE WHAT IT READS IS OF BULK AT MOST 1048576: true; the input reads as it did. -/
def fnExactIsMessageUptoRow : OpenClaim := { program := "ytfjedcjpgmledaa", sum := "d4b6f265e4578a0988a250b253896ea1b7de9b7d87d71581397cb07503e5181c", func := "loop.example/g01248/laws.FnExactIsMessage", spec := "fnExactIsMessage", apart := false, narrowed := true }
def FnExactIsMessageUptoSaid : Prop := fnExactIsMessageUptoRow.holds Try.pinned (OpenSpec.upto fnExactIsMessageSpec)

/-- 'laws.FnExactIsSignal', WHERE WHAT IT READS IS OF BULK AT MOST 1048576: true; the input reads as it did. -/
def fnExactIsSignalUptoRow : OpenClaim := { program := "ytfjedcjpgmledaa", sum := "d4b6f265e4578a0988a250b253896ea1b7de9b7d87d71581397cb07503e5181c", func := "loop.example/g01248/laws.FnExactIsSignal", spec := "fnExactIsSignal", apart := false, narrowed := true }
def FnExactIsSignalUptoSaid : Prop := fnExactIsSignalUptoRow.holds Try.pinned (OpenSpec.upto fnExactIsSignalSpec)

/-- 'laws.FnExactMarksOf', WHERE WHAT IT READS IS OF BULK AT MOST 1048576: true; the input reads as it did. -/
def fnExactMarksOfUptoRow : OpenClaim := { program := "ytfjedcjpgmledaa", sum := "d4b6f265e4578a0988a250b253896ea1b7de9b7d87d71581397cb07503e5181c", func := "loop.example/g01248/laws.FnExactMarksOf", spec := "fnExactMarksOf", apart := false, narrowed := true }
def FnExactMarksOfUptoSaid : Prop := fnExactMarksOfUptoRow.holds Try.pinned (OpenSpec.upto fnExactMarksOfSpec)

/-- 'laws.FnExactLetterOf', WHERE WHAT IT READS IS OF BULK AT MOST 1048576: true; the input reads as it did. -/
def fnExactLetterOfUptoRow : OpenClaim := { program := "ytfjedcjpgmledaa", sum := "d4b6f265e4578a0988a250b253896ea1b7de9b7d87d71581397cb07503e5181c", func := "loop.example/g01248/laws.FnExactLetterOf", spec := "fnExactLetterOf", apart := false, narrowed := true }
def FnExactLetterOfUptoSaid : Prop := fnExactLetterOfUptoRow.holds Try.pinned (OpenSpec.upto fnExactLetterOfSpec)

/-- 'laws.FnExactDecodeSignal', WHERE WHAT IT READS IS OF BULK AT MOST 1048576: true; the input reads as it did. -/
def fnExactDecodeSignalUptoRow : OpenClaim := { program := "ytfjedcjpgmledaa", sum := "d4b6f265e4578a0988a250b253896ea1b7de9b7d87d71581397cb07503e5181c", func := "loop.example/g01248/laws.FnExactDecodeSignal", spec := "fnExactDecodeSignal", apart := false, narrowed := true }
def FnExactDecodeSignalUptoSaid : Prop := fnExactDecodeSignalUptoRow.holds Try.pinned (OpenSpec.upto fnExactDecodeSignalSpec)

/-- 'laws.FnExactTimeOfMarks', WHERE WHAT IT READS IS OF BULK AT MOST 1048576: true; the input reads as it did. -/
def fnExactTimeOfMarksUptoRow : OpenClaim := { program := "ytfjedcjpgmledaa", sum := "d4b6f265e4578a0988a250b253896ea1b7de9b7d87d71581397cb07503e5181c", func := "loop.example/g01248/laws.FnExactTimeOfMarks", spec := "fnExactTimeOfMarks", apart := false, narrowed := true }
def FnExactTimeOfMarksUptoSaid : Prop := fnExactTimeOfMarksUptoRow.holds Try.pinned (OpenSpec.upto fnExactTimeOfMarksSpec)

/-- 'laws.FnExactTimeOfSignal', WHERE WHAT IT READS IS OF BULK AT MOST 1048576: true; the input reads as it did. -/
def fnExactTimeOfSignalUptoRow : OpenClaim := { program := "ytfjedcjpgmledaa", sum := "d4b6f265e4578a0988a250b253896ea1b7de9b7d87d71581397cb07503e5181c", func := "loop.example/g01248/laws.FnExactTimeOfSignal", spec := "fnExactTimeOfSignal", apart := false, narrowed := true }
def FnExactTimeOfSignalUptoSaid : Prop := fnExactTimeOfSignalUptoRow.holds Try.pinned (OpenSpec.upto fnExactTimeOfSignalSpec)

/-- 'laws.FnExactOppositeTable', WHERE WHAT IT READS IS OF BULK AT MOST 1048576: true; the input reads as it did. -/
def fnExactOppositeTableUptoRow : OpenClaim := { program := "ytfjedcjpgmledaa", sum := "d4b6f265e4578a0988a250b253896ea1b7de9b7d87d71581397cb07503e5181c", func := "loop.example/g01248/laws.FnExactOppositeTable", spec := "fnExactOppositeTable", apart := false, narrowed := true }
def FnExactOppositeTableUptoSaid : Prop := fnExactOppositeTableUptoRow.holds Try.pinned (OpenSpec.upto fnExactOppositeTableSpec)

/-- 'laws.FnExactBackTable', WHERE WHAT IT READS IS OF BULK AT MOST 1048576: true; the input reads as it did. -/
def fnExactBackTableUptoRow : OpenClaim := { program := "ytfjedcjpgmledaa", sum := "d4b6f265e4578a0988a250b253896ea1b7de9b7d87d71581397cb07503e5181c", func := "loop.example/g01248/laws.FnExactBackTable", spec := "fnExactBackTable", apart := false, narrowed := true }
def FnExactBackTableUptoSaid : Prop := fnExactBackTableUptoRow.holds Try.pinned (OpenSpec.upto fnExactBackTableSpec)

/-- 'laws.FnExactAddLetter', WHERE WHAT IT READS IS OF BULK AT MOST 1048576: true; the input reads as it did. -/
def fnExactAddLetterUptoRow : OpenClaim := { program := "ytfjedcjpgmledaa", sum := "d4b6f265e4578a0988a250b253896ea1b7de9b7d87d71581397cb07503e5181c", func := "loop.example/g01248/laws.FnExactAddLetter", spec := "fnExactAddLetter", apart := false, narrowed := true }
def FnExactAddLetterUptoSaid : Prop := fnExactAddLetterUptoRow.holds Try.pinned (OpenSpec.upto fnExactAddLetterSpec)

/-- 'laws.FnExactSwapLetters', WHERE WHAT IT READS IS OF BULK AT MOST 1048576: true; the input reads as it did. -/
def fnExactSwapLettersUptoRow : OpenClaim := { program := "ytfjedcjpgmledaa", sum := "d4b6f265e4578a0988a250b253896ea1b7de9b7d87d71581397cb07503e5181c", func := "loop.example/g01248/laws.FnExactSwapLetters", spec := "fnExactSwapLetters", apart := false, narrowed := true }
def FnExactSwapLettersUptoSaid : Prop := fnExactSwapLettersUptoRow.holds Try.pinned (OpenSpec.upto fnExactSwapLettersSpec)

/-- 'laws.FnExactTableText', WHERE WHAT IT READS IS OF BULK AT MOST 1048576: true; the input reads as it did. -/
def fnExactTableTextUptoRow : OpenClaim := { program := "ytfjedcjpgmledaa", sum := "d4b6f265e4578a0988a250b253896ea1b7de9b7d87d71581397cb07503e5181c", func := "loop.example/g01248/laws.FnExactTableText", spec := "fnExactTableText", inPlace := ["internal/abi.NoEscape", "internal/bytealg.MakeNoZero"], apart := false, narrowed := true }
def FnExactTableTextUptoSaid : Prop := fnExactTableTextUptoRow.holds Try.pinned (OpenSpec.upto fnExactTableTextSpec)

/-- 'laws.FnExactParseTable', WHERE WHAT IT READS IS OF BULK AT MOST 1048576: true; the input reads as it did. -/
def fnExactParseTableUptoRow : OpenClaim := { program := "ytfjedcjpgmledaa", sum := "d4b6f265e4578a0988a250b253896ea1b7de9b7d87d71581397cb07503e5181c", func := "loop.example/g01248/laws.FnExactParseTable", spec := "fnExactParseTable", unfollowed := true, recurses := true, apart := false, narrowed := true }
def FnExactParseTableUptoSaid : Prop := fnExactParseTableUptoRow.holds Try.pinned (OpenSpec.upto fnExactParseTableSpec)

end Rows
end Go.Proofs.Ytfjedcjpgmledaa
