/-
  No cell of these rows narrows 'for every input' (looked for: loops, veiled, ifaces, maps, wideKeys, modest, calm, conditions, laid).
  DERIVED. THE GIVEN ROWS OF THIS SEAT. 17 by the template 'for every input the law returns true; each argument reads behind the call as it read before'; 0 by the template 'total and deterministic' (their statements: YtdphjnbelggcfaaTotals.lean).
  GIVEN WITH THE SEED: the statements are not yours to turn. If you find one false, say at which input.
  Laid BY PROGRAM, IN A SANDBOX (cutbox-rows.mjs): the forced cells as the released guide's own fill.sh prints them over the translation 1a34b9b297f0398b… (all of the seat's roots in one cut). By AI agents, Wed Nov 11 2026. No macro, syntax, notation, axiom, sorry.
-/
import Derived.Test.YtdphjnbelggcfaaChecked
import GoSem.Claim
import GoSem.ClaimJoined
import GoSem.ClaimMapViews
import Derived.JoinedTies
import Derived.KernelRfl
namespace Go.Proofs.Ytdphjnbelggcfaa
/- THE CELL 'sum', in the pinned program and in every row, IS THE sha256 OF THE DUMP (.gsa) THAT YtdphjnbelggcfaaProg.lean LOADS. Nothing in Lean hashes anything: it is a label: what it is worth is what the hold of that sum in a sandbox is worth. -/
noncomputable def Try.pinned : Pinned := { name := "ytdphjnbelggcfaa", sum := "1a34b9b297f0398bf95d70c2a799cda5a3a202cf65d7a783ad000c154b097799", checked := Try.checked }
namespace Rows
def none {H : Type} : Left H := { results := [], args := [] }

/-- 'laws.FnExactNodeOfMarks': WHATEVER THE INPUT: true; the input reads as it did. -/
def fnExactNodeOfMarksSpec : ChangeSpec := { name := "fnExactNodeOfMarks", fn := fun _ => fun
  | [d] => { results := [.lit (.bool true)], args := [d] }
  | _ => none }
def fnExactNodeOfMarksRow : OpenClaim := { program := "ytdphjnbelggcfaa", sum := "1a34b9b297f0398bf95d70c2a799cda5a3a202cf65d7a783ad000c154b097799", func := "loop.example/g01248/laws.FnExactNodeOfMarks", spec := "fnExactNodeOfMarks", apart := false }
def FnExactNodeOfMarksSaid : Prop := fnExactNodeOfMarksRow.holds Try.pinned (OpenSpec.ofChange fnExactNodeOfMarksSpec)

/-- ITS FALSE NEIGHBOUR: 'it returns false'. Refute it at one input. -/
def fnExactNodeOfMarksWrong : ChangeSpec := { name := "fnExactNodeOfMarks", fn := fun _ => fun
  | [d] => { results := [.lit (.bool false)], args := [d] }
  | _ => none }
def FnExactNodeOfMarksWrongFalsely : Prop := fnExactNodeOfMarksRow.holds Try.pinned (OpenSpec.ofChange fnExactNodeOfMarksWrong)

/-- 'laws.FnExactMarksOfNode': WHATEVER THE INPUT: true; the input reads as it did. -/
def fnExactMarksOfNodeSpec : ChangeSpec := { name := "fnExactMarksOfNode", fn := fun _ => fun
  | [d] => { results := [.lit (.bool true)], args := [d] }
  | _ => none }
def fnExactMarksOfNodeRow : OpenClaim := { program := "ytdphjnbelggcfaa", sum := "1a34b9b297f0398bf95d70c2a799cda5a3a202cf65d7a783ad000c154b097799", func := "loop.example/g01248/laws.FnExactMarksOfNode", spec := "fnExactMarksOfNode", unfollowed := true, recurses := true, apart := false }
def FnExactMarksOfNodeSaid : Prop := fnExactMarksOfNodeRow.holds Try.pinned (OpenSpec.ofChange fnExactMarksOfNodeSpec)

/-- ITS FALSE NEIGHBOUR: 'it returns false'. Refute it at one input. -/
def fnExactMarksOfNodeWrong : ChangeSpec := { name := "fnExactMarksOfNode", fn := fun _ => fun
  | [d] => { results := [.lit (.bool false)], args := [d] }
  | _ => none }
def FnExactMarksOfNodeWrongFalsely : Prop := fnExactMarksOfNodeRow.holds Try.pinned (OpenSpec.ofChange fnExactMarksOfNodeWrong)

/-- 'laws.FnExactFilledNodes': WHATEVER THE INPUT: true; the input reads as it did. -/
def fnExactFilledNodesSpec : ChangeSpec := { name := "fnExactFilledNodes", fn := fun _ => fun
  | [d] => { results := [.lit (.bool true)], args := [d] }
  | _ => none }
def fnExactFilledNodesRow : OpenClaim := { program := "ytdphjnbelggcfaa", sum := "1a34b9b297f0398bf95d70c2a799cda5a3a202cf65d7a783ad000c154b097799", func := "loop.example/g01248/laws.FnExactFilledNodes", spec := "fnExactFilledNodes", recurses := true, apart := false }
def FnExactFilledNodesSaid : Prop := fnExactFilledNodesRow.holds Try.pinned (OpenSpec.ofChange fnExactFilledNodesSpec)

/-- ITS FALSE NEIGHBOUR: 'it returns false'. Refute it at one input. -/
def fnExactFilledNodesWrong : ChangeSpec := { name := "fnExactFilledNodes", fn := fun _ => fun
  | [d] => { results := [.lit (.bool false)], args := [d] }
  | _ => none }
def FnExactFilledNodesWrongFalsely : Prop := fnExactFilledNodesRow.holds Try.pinned (OpenSpec.ofChange fnExactFilledNodesWrong)

/-- 'laws.FnExactIsGrown': WHATEVER THE INPUT: true; the input reads as it did. -/
def fnExactIsGrownSpec : ChangeSpec := { name := "fnExactIsGrown", fn := fun _ => fun
  | [d] => { results := [.lit (.bool true)], args := [d] }
  | _ => none }
def fnExactIsGrownRow : OpenClaim := { program := "ytdphjnbelggcfaa", sum := "1a34b9b297f0398bf95d70c2a799cda5a3a202cf65d7a783ad000c154b097799", func := "loop.example/g01248/laws.FnExactIsGrown", spec := "fnExactIsGrown", unfollowed := true, recurses := true, apart := false }
def FnExactIsGrownSaid : Prop := fnExactIsGrownRow.holds Try.pinned (OpenSpec.ofChange fnExactIsGrownSpec)

/-- ITS FALSE NEIGHBOUR: 'it returns false'. Refute it at one input. -/
def fnExactIsGrownWrong : ChangeSpec := { name := "fnExactIsGrown", fn := fun _ => fun
  | [d] => { results := [.lit (.bool false)], args := [d] }
  | _ => none }
def FnExactIsGrownWrongFalsely : Prop := fnExactIsGrownRow.holds Try.pinned (OpenSpec.ofChange fnExactIsGrownWrong)

/-- 'laws.FnExactGapNodes': WHATEVER THE INPUT: true; the input reads as it did. -/
def fnExactGapNodesSpec : ChangeSpec := { name := "fnExactGapNodes", fn := fun _ => fun
  | [d] => { results := [.lit (.bool true)], args := [d] }
  | _ => none }
def fnExactGapNodesRow : OpenClaim := { program := "ytdphjnbelggcfaa", sum := "1a34b9b297f0398bf95d70c2a799cda5a3a202cf65d7a783ad000c154b097799", func := "loop.example/g01248/laws.FnExactGapNodes", spec := "fnExactGapNodes", unfollowed := true, recurses := true, apart := false }
def FnExactGapNodesSaid : Prop := fnExactGapNodesRow.holds Try.pinned (OpenSpec.ofChange fnExactGapNodesSpec)

/-- ITS FALSE NEIGHBOUR: 'it returns false'. Refute it at one input. -/
def fnExactGapNodesWrong : ChangeSpec := { name := "fnExactGapNodes", fn := fun _ => fun
  | [d] => { results := [.lit (.bool false)], args := [d] }
  | _ => none }
def FnExactGapNodesWrongFalsely : Prop := fnExactGapNodesRow.holds Try.pinned (OpenSpec.ofChange fnExactGapNodesWrong)

/-- 'laws.FnExactJoinNode': WHATEVER THE INPUT: true; the input reads as it did. -/
def fnExactJoinNodeSpec : ChangeSpec := { name := "fnExactJoinNode", fn := fun _ => fun
  | [d1, d2, d3] => { results := [.lit (.bool true)], args := [d1, d2, d3] }
  | _ => none }
def fnExactJoinNodeRow : OpenClaim := { program := "ytdphjnbelggcfaa", sum := "1a34b9b297f0398bf95d70c2a799cda5a3a202cf65d7a783ad000c154b097799", func := "loop.example/g01248/laws.FnExactJoinNode", spec := "fnExactJoinNode", apart := false }
def FnExactJoinNodeSaid : Prop := fnExactJoinNodeRow.holds Try.pinned (OpenSpec.ofChange fnExactJoinNodeSpec)

/-- ITS FALSE NEIGHBOUR: 'it returns false'. Refute it at one input. -/
def fnExactJoinNodeWrong : ChangeSpec := { name := "fnExactJoinNode", fn := fun _ => fun
  | [d1, d2, d3] => { results := [.lit (.bool false)], args := [d1, d2, d3] }
  | _ => none }
def FnExactJoinNodeWrongFalsely : Prop := fnExactJoinNodeRow.holds Try.pinned (OpenSpec.ofChange fnExactJoinNodeWrong)

/-- 'laws.FnExactWayBetween': WHATEVER THE INPUT: true; the input reads as it did. -/
def fnExactWayBetweenSpec : ChangeSpec := { name := "fnExactWayBetween", fn := fun _ => fun
  | [d1, d2, d3] => { results := [.lit (.bool true)], args := [d1, d2, d3] }
  | _ => none }
def fnExactWayBetweenRow : OpenClaim := { program := "ytdphjnbelggcfaa", sum := "1a34b9b297f0398bf95d70c2a799cda5a3a202cf65d7a783ad000c154b097799", func := "loop.example/g01248/laws.FnExactWayBetween", spec := "fnExactWayBetween", apart := false }
def FnExactWayBetweenSaid : Prop := fnExactWayBetweenRow.holds Try.pinned (OpenSpec.ofChange fnExactWayBetweenSpec)

/-- ITS FALSE NEIGHBOUR: 'it returns false'. Refute it at one input. -/
def fnExactWayBetweenWrong : ChangeSpec := { name := "fnExactWayBetween", fn := fun _ => fun
  | [d1, d2, d3] => { results := [.lit (.bool false)], args := [d1, d2, d3] }
  | _ => none }
def FnExactWayBetweenWrongFalsely : Prop := fnExactWayBetweenRow.holds Try.pinned (OpenSpec.ofChange fnExactWayBetweenWrong)

/-- 'laws.FnExactWayOfMessage': WHATEVER THE INPUT: true; the input reads as it did. -/
def fnExactWayOfMessageSpec : ChangeSpec := { name := "fnExactWayOfMessage", fn := fun _ => fun
  | [d1, d2] => { results := [.lit (.bool true)], args := [d1, d2] }
  | _ => none }
def fnExactWayOfMessageRow : OpenClaim := { program := "ytdphjnbelggcfaa", sum := "1a34b9b297f0398bf95d70c2a799cda5a3a202cf65d7a783ad000c154b097799", func := "loop.example/g01248/laws.FnExactWayOfMessage", spec := "fnExactWayOfMessage", apart := false }
def FnExactWayOfMessageSaid : Prop := fnExactWayOfMessageRow.holds Try.pinned (OpenSpec.ofChange fnExactWayOfMessageSpec)

/-- ITS FALSE NEIGHBOUR: 'it returns false'. Refute it at one input. -/
def fnExactWayOfMessageWrong : ChangeSpec := { name := "fnExactWayOfMessage", fn := fun _ => fun
  | [d1, d2] => { results := [.lit (.bool false)], args := [d1, d2] }
  | _ => none }
def FnExactWayOfMessageWrongFalsely : Prop := fnExactWayOfMessageRow.holds Try.pinned (OpenSpec.ofChange fnExactWayOfMessageWrong)

/-- 'laws.FnExactLettersBelow': WHATEVER THE INPUT: true; the input reads as it did. -/
def fnExactLettersBelowSpec : ChangeSpec := { name := "fnExactLettersBelow", fn := fun _ => fun
  | [d1, d2] => { results := [.lit (.bool true)], args := [d1, d2] }
  | _ => none }
def fnExactLettersBelowRow : OpenClaim := { program := "ytdphjnbelggcfaa", sum := "1a34b9b297f0398bf95d70c2a799cda5a3a202cf65d7a783ad000c154b097799", func := "loop.example/g01248/laws.FnExactLettersBelow", spec := "fnExactLettersBelow", unfollowed := true, recurses := true, apart := false }
def FnExactLettersBelowSaid : Prop := fnExactLettersBelowRow.holds Try.pinned (OpenSpec.ofChange fnExactLettersBelowSpec)

/-- ITS FALSE NEIGHBOUR: 'it returns false'. Refute it at one input. -/
def fnExactLettersBelowWrong : ChangeSpec := { name := "fnExactLettersBelow", fn := fun _ => fun
  | [d1, d2] => { results := [.lit (.bool false)], args := [d1, d2] }
  | _ => none }
def FnExactLettersBelowWrongFalsely : Prop := fnExactLettersBelowRow.holds Try.pinned (OpenSpec.ofChange fnExactLettersBelowWrong)

/-- 'laws.FnExactDepthCounts': WHATEVER THE INPUT: true; the input reads as it did. -/
def fnExactDepthCountsSpec : ChangeSpec := { name := "fnExactDepthCounts", fn := fun _ => fun
  | [d] => { results := [.lit (.bool true)], args := [d] }
  | _ => none }
def fnExactDepthCountsRow : OpenClaim := { program := "ytdphjnbelggcfaa", sum := "1a34b9b297f0398bf95d70c2a799cda5a3a202cf65d7a783ad000c154b097799", func := "loop.example/g01248/laws.FnExactDepthCounts", spec := "fnExactDepthCounts", apart := false }
def FnExactDepthCountsSaid : Prop := fnExactDepthCountsRow.holds Try.pinned (OpenSpec.ofChange fnExactDepthCountsSpec)

/-- ITS FALSE NEIGHBOUR: 'it returns false'. Refute it at one input. -/
def fnExactDepthCountsWrong : ChangeSpec := { name := "fnExactDepthCounts", fn := fun _ => fun
  | [d] => { results := [.lit (.bool false)], args := [d] }
  | _ => none }
def FnExactDepthCountsWrongFalsely : Prop := fnExactDepthCountsRow.holds Try.pinned (OpenSpec.ofChange fnExactDepthCountsWrong)

/-- 'laws.FnExactCountTables': WHATEVER THE INPUT: true; the input reads as it did. -/
def fnExactCountTablesSpec : ChangeSpec := { name := "fnExactCountTables", fn := fun _ => fun
  | [d1, d2] => { results := [.lit (.bool true)], args := [d1, d2] }
  | _ => none }
def fnExactCountTablesRow : OpenClaim := { program := "ytdphjnbelggcfaa", sum := "1a34b9b297f0398bf95d70c2a799cda5a3a202cf65d7a783ad000c154b097799", func := "loop.example/g01248/laws.FnExactCountTables", spec := "fnExactCountTables", apart := false }
def FnExactCountTablesSaid : Prop := fnExactCountTablesRow.holds Try.pinned (OpenSpec.ofChange fnExactCountTablesSpec)

/-- ITS FALSE NEIGHBOUR: 'it returns false'. Refute it at one input. -/
def fnExactCountTablesWrong : ChangeSpec := { name := "fnExactCountTables", fn := fun _ => fun
  | [d1, d2] => { results := [.lit (.bool false)], args := [d1, d2] }
  | _ => none }
def FnExactCountTablesWrongFalsely : Prop := fnExactCountTablesRow.holds Try.pinned (OpenSpec.ofChange fnExactCountTablesWrong)

/-- 'laws.FnExactRankOfTable': WHATEVER THE INPUT: true; the input reads as it did. -/
def fnExactRankOfTableSpec : ChangeSpec := { name := "fnExactRankOfTable", fn := fun _ => fun
  | [d1, d2] => { results := [.lit (.bool true)], args := [d1, d2] }
  | _ => none }
def fnExactRankOfTableRow : OpenClaim := { program := "ytdphjnbelggcfaa", sum := "1a34b9b297f0398bf95d70c2a799cda5a3a202cf65d7a783ad000c154b097799", func := "loop.example/g01248/laws.FnExactRankOfTable", spec := "fnExactRankOfTable", apart := false }
def FnExactRankOfTableSaid : Prop := fnExactRankOfTableRow.holds Try.pinned (OpenSpec.ofChange fnExactRankOfTableSpec)

/-- ITS FALSE NEIGHBOUR: 'it returns false'. Refute it at one input. -/
def fnExactRankOfTableWrong : ChangeSpec := { name := "fnExactRankOfTable", fn := fun _ => fun
  | [d1, d2] => { results := [.lit (.bool false)], args := [d1, d2] }
  | _ => none }
def FnExactRankOfTableWrongFalsely : Prop := fnExactRankOfTableRow.holds Try.pinned (OpenSpec.ofChange fnExactRankOfTableWrong)

/-- 'laws.FnExactTableAt': WHATEVER THE INPUT: true; the input reads as it did. -/
def fnExactTableAtSpec : ChangeSpec := { name := "fnExactTableAt", fn := fun _ => fun
  | [d1, d2, d3] => { results := [.lit (.bool true)], args := [d1, d2, d3] }
  | _ => none }
def fnExactTableAtRow : OpenClaim := { program := "ytdphjnbelggcfaa", sum := "1a34b9b297f0398bf95d70c2a799cda5a3a202cf65d7a783ad000c154b097799", func := "loop.example/g01248/laws.FnExactTableAt", spec := "fnExactTableAt", unfollowed := true, recurses := true, apart := false }
def FnExactTableAtSaid : Prop := fnExactTableAtRow.holds Try.pinned (OpenSpec.ofChange fnExactTableAtSpec)

/-- ITS FALSE NEIGHBOUR: 'it returns false'. Refute it at one input. -/
def fnExactTableAtWrong : ChangeSpec := { name := "fnExactTableAt", fn := fun _ => fun
  | [d1, d2, d3] => { results := [.lit (.bool false)], args := [d1, d2, d3] }
  | _ => none }
def FnExactTableAtWrongFalsely : Prop := fnExactTableAtRow.holds Try.pinned (OpenSpec.ofChange fnExactTableAtWrong)

/-- 'laws.FnExactSortTable': WHATEVER THE INPUT: true; the input reads as it did. -/
def fnExactSortTableSpec : ChangeSpec := { name := "fnExactSortTable", fn := fun _ => fun
  | [d] => { results := [.lit (.bool true)], args := [d] }
  | _ => none }
def fnExactSortTableRow : OpenClaim := { program := "ytdphjnbelggcfaa", sum := "1a34b9b297f0398bf95d70c2a799cda5a3a202cf65d7a783ad000c154b097799", func := "loop.example/g01248/laws.FnExactSortTable", spec := "fnExactSortTable", unfollowed := true, recurses := true, apart := false }
def FnExactSortTableSaid : Prop := fnExactSortTableRow.holds Try.pinned (OpenSpec.ofChange fnExactSortTableSpec)

/-- ITS FALSE NEIGHBOUR: 'it returns false'. Refute it at one input. -/
def fnExactSortTableWrong : ChangeSpec := { name := "fnExactSortTable", fn := fun _ => fun
  | [d] => { results := [.lit (.bool false)], args := [d] }
  | _ => none }
def FnExactSortTableWrongFalsely : Prop := fnExactSortTableRow.holds Try.pinned (OpenSpec.ofChange fnExactSortTableWrong)

/-- 'laws.FnExactBestFrom': WHATEVER THE INPUT: true; the input reads as it did. -/
def fnExactBestFromSpec : ChangeSpec := { name := "fnExactBestFrom", fn := fun _ => fun
  | [d1, d2] => { results := [.lit (.bool true)], args := [d1, d2] }
  | _ => none }
def fnExactBestFromRow : OpenClaim := { program := "ytdphjnbelggcfaa", sum := "1a34b9b297f0398bf95d70c2a799cda5a3a202cf65d7a783ad000c154b097799", func := "loop.example/g01248/laws.FnExactBestFrom", spec := "fnExactBestFrom", inPlace := ["internal/reflectlite.ValueOf", "internal/reflectlite.Swapper", "(internal/reflectlite.Value).Len"], unfollowed := true, recurses := true, apart := false }
def FnExactBestFromSaid : Prop := fnExactBestFromRow.holds Try.pinned (OpenSpec.ofChange fnExactBestFromSpec)

/-- ITS FALSE NEIGHBOUR: 'it returns false'. Refute it at one input. -/
def fnExactBestFromWrong : ChangeSpec := { name := "fnExactBestFrom", fn := fun _ => fun
  | [d1, d2] => { results := [.lit (.bool false)], args := [d1, d2] }
  | _ => none }
def FnExactBestFromWrongFalsely : Prop := fnExactBestFromRow.holds Try.pinned (OpenSpec.ofChange fnExactBestFromWrong)

/-- 'laws.FnExactLeastApart': WHATEVER THE INPUT: true; the input reads as it did. -/
def fnExactLeastApartSpec : ChangeSpec := { name := "fnExactLeastApart", fn := fun _ => fun
  | [d] => { results := [.lit (.bool true)], args := [d] }
  | _ => none }
def fnExactLeastApartRow : OpenClaim := { program := "ytdphjnbelggcfaa", sum := "1a34b9b297f0398bf95d70c2a799cda5a3a202cf65d7a783ad000c154b097799", func := "loop.example/g01248/laws.FnExactLeastApart", spec := "fnExactLeastApart", unfollowed := true, recurses := true, apart := false }
def FnExactLeastApartSaid : Prop := fnExactLeastApartRow.holds Try.pinned (OpenSpec.ofChange fnExactLeastApartSpec)

/-- ITS FALSE NEIGHBOUR: 'it returns false'. Refute it at one input. -/
def fnExactLeastApartWrong : ChangeSpec := { name := "fnExactLeastApart", fn := fun _ => fun
  | [d] => { results := [.lit (.bool false)], args := [d] }
  | _ => none }
def FnExactLeastApartWrongFalsely : Prop := fnExactLeastApartRow.holds Try.pinned (OpenSpec.ofChange fnExactLeastApartWrong)

/-- 'laws.FnExactClosePairs': WHATEVER THE INPUT: true; the input reads as it did. -/
def fnExactClosePairsSpec : ChangeSpec := { name := "fnExactClosePairs", fn := fun _ => fun
  | [d1, d2] => { results := [.lit (.bool true)], args := [d1, d2] }
  | _ => none }
def fnExactClosePairsRow : OpenClaim := { program := "ytdphjnbelggcfaa", sum := "1a34b9b297f0398bf95d70c2a799cda5a3a202cf65d7a783ad000c154b097799", func := "loop.example/g01248/laws.FnExactClosePairs", spec := "fnExactClosePairs", unfollowed := true, recurses := true, apart := false }
def FnExactClosePairsSaid : Prop := fnExactClosePairsRow.holds Try.pinned (OpenSpec.ofChange fnExactClosePairsSpec)

/-- ITS FALSE NEIGHBOUR: 'it returns false'. Refute it at one input. -/
def fnExactClosePairsWrong : ChangeSpec := { name := "fnExactClosePairs", fn := fun _ => fun
  | [d1, d2] => { results := [.lit (.bool false)], args := [d1, d2] }
  | _ => none }
def FnExactClosePairsWrongFalsely : Prop := fnExactClosePairsRow.holds Try.pinned (OpenSpec.ofChange fnExactClosePairsWrong)

/- THE SECOND FORM. 'bulk': how many values and letters a reading holds, each counted each time it is reached (what is shared counts as often as it is met; a slice's spare places count too). A statement '..UptoSaid' is the law's where the arguments, and the package variables that the reading takes, are together of bulk at most 1048576: NARROWER than '..Said'. Prove '..Said' where nothing that the law and all that it calls make is longer than what came in: it says more and counts as full. Else prove '..UptoSaid'. A law counts once. -/
mutual
def uptoBulk {H : Type} : DataW H → Nat
  | .lit (.string bytes) => bytes.length + 1
  | .lit _ => 1
  | .nil => 1
  | .ptr d => uptoBulk d + 1
  | .slice elems spare => uptoBulkAll elems + uptoBulkAll spare + 1
  | .agg parts => uptoBulkAll parts + 1
  | .iface _ d => uptoBulk d + 1
  | .map entries => uptoBulkEntries entries + 1
  | .held _ => 1
def uptoBulkAll {H : Type} : List (DataW H) → Nat
  | [] => 0
  | d :: r => uptoBulk d + uptoBulkAll r
def uptoBulkEntries {H : Type} : List (Lit × DataW H) → Nat
  | [] => 0
  | x :: r => uptoBulkEntry x + uptoBulkEntries r
def uptoBulkEntry {H : Type} : Lit × DataW H → Nat
  | (.string bytes, d) => bytes.length + uptoBulk d + 1
  | (_, d) => uptoBulk d + 1
 end
def uptoSmall : (H : Type) → List (DataW H) → Bool := fun _ ds => decide (uptoBulkAll ds ≤ 1048576)
def OpenSpec.upto (s : _root_.Go.ChangeSpec) : _root_.Go.OpenSpec := { _root_.Go.OpenSpec.ofChange s with cond := some uptoSmall }

/-- 'laws.FnExactNodeOfMarks', WHERE WHAT IT READS IS OF BULK AT MOST 1048576: true; the input reads as it did. -/
def fnExactNodeOfMarksUptoRow : OpenClaim := { program := "ytdphjnbelggcfaa", sum := "1a34b9b297f0398bf95d70c2a799cda5a3a202cf65d7a783ad000c154b097799", func := "loop.example/g01248/laws.FnExactNodeOfMarks", spec := "fnExactNodeOfMarks", apart := false, narrowed := true }
def FnExactNodeOfMarksUptoSaid : Prop := fnExactNodeOfMarksUptoRow.holds Try.pinned (OpenSpec.upto fnExactNodeOfMarksSpec)

/-- 'laws.FnExactMarksOfNode', WHERE WHAT IT READS IS OF BULK AT MOST 1048576: true; the input reads as it did. -/
def fnExactMarksOfNodeUptoRow : OpenClaim := { program := "ytdphjnbelggcfaa", sum := "1a34b9b297f0398bf95d70c2a799cda5a3a202cf65d7a783ad000c154b097799", func := "loop.example/g01248/laws.FnExactMarksOfNode", spec := "fnExactMarksOfNode", unfollowed := true, recurses := true, apart := false, narrowed := true }
def FnExactMarksOfNodeUptoSaid : Prop := fnExactMarksOfNodeUptoRow.holds Try.pinned (OpenSpec.upto fnExactMarksOfNodeSpec)

/-- 'laws.FnExactFilledNodes', WHERE WHAT IT READS IS OF BULK AT MOST 1048576: true; the input reads as it did. -/
def fnExactFilledNodesUptoRow : OpenClaim := { program := "ytdphjnbelggcfaa", sum := "1a34b9b297f0398bf95d70c2a799cda5a3a202cf65d7a783ad000c154b097799", func := "loop.example/g01248/laws.FnExactFilledNodes", spec := "fnExactFilledNodes", recurses := true, apart := false, narrowed := true }
def FnExactFilledNodesUptoSaid : Prop := fnExactFilledNodesUptoRow.holds Try.pinned (OpenSpec.upto fnExactFilledNodesSpec)

/-- 'laws.FnExactIsGrown', WHERE WHAT IT READS IS OF BULK AT MOST 1048576: true; the input reads as it did. -/
def fnExactIsGrownUptoRow : OpenClaim := { program := "ytdphjnbelggcfaa", sum := "1a34b9b297f0398bf95d70c2a799cda5a3a202cf65d7a783ad000c154b097799", func := "loop.example/g01248/laws.FnExactIsGrown", spec := "fnExactIsGrown", unfollowed := true, recurses := true, apart := false, narrowed := true }
def FnExactIsGrownUptoSaid : Prop := fnExactIsGrownUptoRow.holds Try.pinned (OpenSpec.upto fnExactIsGrownSpec)

/-- 'laws.FnExactGapNodes', WHERE WHAT IT READS IS OF BULK AT MOST 1048576: true; the input reads as it did. -/
def fnExactGapNodesUptoRow : OpenClaim := { program := "ytdphjnbelggcfaa", sum := "1a34b9b297f0398bf95d70c2a799cda5a3a202cf65d7a783ad000c154b097799", func := "loop.example/g01248/laws.FnExactGapNodes", spec := "fnExactGapNodes", unfollowed := true, recurses := true, apart := false, narrowed := true }
def FnExactGapNodesUptoSaid : Prop := fnExactGapNodesUptoRow.holds Try.pinned (OpenSpec.upto fnExactGapNodesSpec)

/-- 'laws.FnExactJoinNode', WHERE WHAT IT READS IS OF BULK AT MOST 1048576: true; the input reads as it did. -/
def fnExactJoinNodeUptoRow : OpenClaim := { program := "ytdphjnbelggcfaa", sum := "1a34b9b297f0398bf95d70c2a799cda5a3a202cf65d7a783ad000c154b097799", func := "loop.example/g01248/laws.FnExactJoinNode", spec := "fnExactJoinNode", apart := false, narrowed := true }
def FnExactJoinNodeUptoSaid : Prop := fnExactJoinNodeUptoRow.holds Try.pinned (OpenSpec.upto fnExactJoinNodeSpec)

/-- 'laws.FnExactWayBetween', WHERE WHAT IT READS IS OF BULK AT MOST 1048576: true; the input reads as it did. -/
def fnExactWayBetweenUptoRow : OpenClaim := { program := "ytdphjnbelggcfaa", sum := "1a34b9b297f0398bf95d70c2a799cda5a3a202cf65d7a783ad000c154b097799", func := "loop.example/g01248/laws.FnExactWayBetween", spec := "fnExactWayBetween", apart := false, narrowed := true }
def FnExactWayBetweenUptoSaid : Prop := fnExactWayBetweenUptoRow.holds Try.pinned (OpenSpec.upto fnExactWayBetweenSpec)

/-- 'laws.FnExactWayOfMessage', WHERE WHAT IT READS IS OF BULK AT MOST 1048576: true; the input reads as it did. -/
def fnExactWayOfMessageUptoRow : OpenClaim := { program := "ytdphjnbelggcfaa", sum := "1a34b9b297f0398bf95d70c2a799cda5a3a202cf65d7a783ad000c154b097799", func := "loop.example/g01248/laws.FnExactWayOfMessage", spec := "fnExactWayOfMessage", apart := false, narrowed := true }
def FnExactWayOfMessageUptoSaid : Prop := fnExactWayOfMessageUptoRow.holds Try.pinned (OpenSpec.upto fnExactWayOfMessageSpec)

/-- 'laws.FnExactLettersBelow', WHERE WHAT IT READS IS OF BULK AT MOST 1048576: true; the input reads as it did. -/
def fnExactLettersBelowUptoRow : OpenClaim := { program := "ytdphjnbelggcfaa", sum := "1a34b9b297f0398bf95d70c2a799cda5a3a202cf65d7a783ad000c154b097799", func := "loop.example/g01248/laws.FnExactLettersBelow", spec := "fnExactLettersBelow", unfollowed := true, recurses := true, apart := false, narrowed := true }
def FnExactLettersBelowUptoSaid : Prop := fnExactLettersBelowUptoRow.holds Try.pinned (OpenSpec.upto fnExactLettersBelowSpec)

/-- 'laws.FnExactDepthCounts', WHERE WHAT IT READS IS OF BULK AT MOST 1048576: true; the input reads as it did. -/
def fnExactDepthCountsUptoRow : OpenClaim := { program := "ytdphjnbelggcfaa", sum := "1a34b9b297f0398bf95d70c2a799cda5a3a202cf65d7a783ad000c154b097799", func := "loop.example/g01248/laws.FnExactDepthCounts", spec := "fnExactDepthCounts", apart := false, narrowed := true }
def FnExactDepthCountsUptoSaid : Prop := fnExactDepthCountsUptoRow.holds Try.pinned (OpenSpec.upto fnExactDepthCountsSpec)

/-- 'laws.FnExactCountTables', WHERE WHAT IT READS IS OF BULK AT MOST 1048576: true; the input reads as it did. -/
def fnExactCountTablesUptoRow : OpenClaim := { program := "ytdphjnbelggcfaa", sum := "1a34b9b297f0398bf95d70c2a799cda5a3a202cf65d7a783ad000c154b097799", func := "loop.example/g01248/laws.FnExactCountTables", spec := "fnExactCountTables", apart := false, narrowed := true }
def FnExactCountTablesUptoSaid : Prop := fnExactCountTablesUptoRow.holds Try.pinned (OpenSpec.upto fnExactCountTablesSpec)

/-- 'laws.FnExactRankOfTable', WHERE WHAT IT READS IS OF BULK AT MOST 1048576: true; the input reads as it did. -/
def fnExactRankOfTableUptoRow : OpenClaim := { program := "ytdphjnbelggcfaa", sum := "1a34b9b297f0398bf95d70c2a799cda5a3a202cf65d7a783ad000c154b097799", func := "loop.example/g01248/laws.FnExactRankOfTable", spec := "fnExactRankOfTable", apart := false, narrowed := true }
def FnExactRankOfTableUptoSaid : Prop := fnExactRankOfTableUptoRow.holds Try.pinned (OpenSpec.upto fnExactRankOfTableSpec)

/-- 'laws.FnExactTableAt', WHERE WHAT IT READS IS OF BULK AT MOST 1048576: true; the input reads as it did. -/
def fnExactTableAtUptoRow : OpenClaim := { program := "ytdphjnbelggcfaa", sum := "1a34b9b297f0398bf95d70c2a799cda5a3a202cf65d7a783ad000c154b097799", func := "loop.example/g01248/laws.FnExactTableAt", spec := "fnExactTableAt", unfollowed := true, recurses := true, apart := false, narrowed := true }
def FnExactTableAtUptoSaid : Prop := fnExactTableAtUptoRow.holds Try.pinned (OpenSpec.upto fnExactTableAtSpec)

/-- 'laws.FnExactSortTable', WHERE WHAT IT READS IS OF BULK AT MOST 1048576: true; the input reads as it did. -/
def fnExactSortTableUptoRow : OpenClaim := { program := "ytdphjnbelggcfaa", sum := "1a34b9b297f0398bf95d70c2a799cda5a3a202cf65d7a783ad000c154b097799", func := "loop.example/g01248/laws.FnExactSortTable", spec := "fnExactSortTable", unfollowed := true, recurses := true, apart := false, narrowed := true }
def FnExactSortTableUptoSaid : Prop := fnExactSortTableUptoRow.holds Try.pinned (OpenSpec.upto fnExactSortTableSpec)

/-- 'laws.FnExactBestFrom', WHERE WHAT IT READS IS OF BULK AT MOST 1048576: true; the input reads as it did. -/
def fnExactBestFromUptoRow : OpenClaim := { program := "ytdphjnbelggcfaa", sum := "1a34b9b297f0398bf95d70c2a799cda5a3a202cf65d7a783ad000c154b097799", func := "loop.example/g01248/laws.FnExactBestFrom", spec := "fnExactBestFrom", inPlace := ["internal/reflectlite.ValueOf", "internal/reflectlite.Swapper", "(internal/reflectlite.Value).Len"], unfollowed := true, recurses := true, apart := false, narrowed := true }
def FnExactBestFromUptoSaid : Prop := fnExactBestFromUptoRow.holds Try.pinned (OpenSpec.upto fnExactBestFromSpec)

/-- 'laws.FnExactLeastApart', WHERE WHAT IT READS IS OF BULK AT MOST 1048576: true; the input reads as it did. -/
def fnExactLeastApartUptoRow : OpenClaim := { program := "ytdphjnbelggcfaa", sum := "1a34b9b297f0398bf95d70c2a799cda5a3a202cf65d7a783ad000c154b097799", func := "loop.example/g01248/laws.FnExactLeastApart", spec := "fnExactLeastApart", unfollowed := true, recurses := true, apart := false, narrowed := true }
def FnExactLeastApartUptoSaid : Prop := fnExactLeastApartUptoRow.holds Try.pinned (OpenSpec.upto fnExactLeastApartSpec)

/-- 'laws.FnExactClosePairs', WHERE WHAT IT READS IS OF BULK AT MOST 1048576: true; the input reads as it did. -/
def fnExactClosePairsUptoRow : OpenClaim := { program := "ytdphjnbelggcfaa", sum := "1a34b9b297f0398bf95d70c2a799cda5a3a202cf65d7a783ad000c154b097799", func := "loop.example/g01248/laws.FnExactClosePairs", spec := "fnExactClosePairs", unfollowed := true, recurses := true, apart := false, narrowed := true }
def FnExactClosePairsUptoSaid : Prop := fnExactClosePairsUptoRow.holds Try.pinned (OpenSpec.upto fnExactClosePairsSpec)

end Rows
end Go.Proofs.Ytdphjnbelggcfaa
