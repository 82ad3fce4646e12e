/-
  No cell of these rows narrows 'for every input' (looked for: loops, veiled, ifaces, maps, wideKeys, modest, calm, conditions, laid).
  DERIVED. THE GIVEN ROWS OF THIS SEAT. 11 by the template 'for every input the law returns true; each argument reads behind the call as it read before'; 0 by the template 'total and deterministic' (their statements: YtekgmdigchobbaaTotals.lean).
  GIVEN WITH THE SEED: the statements are not yours to turn. If you find one false, say at which input.
  Laid BY PROGRAM, IN A SANDBOX (cutbox-rows.mjs): the forced cells as the released guide's own fill.sh prints them over the translation cbe5101771edeb01… (all of the seat's roots in one cut). By AI agents, Wed Nov 11 2026. No macro, syntax, notation, axiom, sorry.
-/
import Derived.Test.YtekgmdigchobbaaChecked
import GoSem.Claim
import GoSem.ClaimJoined
import GoSem.ClaimMapViews
import Derived.JoinedTies
import Derived.KernelRfl
namespace Go.Proofs.Ytekgmdigchobbaa
/- THE CELL 'sum', in the pinned program and in every row, IS THE sha256 OF THE DUMP (.gsa) THAT YtekgmdigchobbaaProg.lean LOADS. Nothing in Lean hashes anything: it is a label: what it is worth is what the hold of that sum in a sandbox is worth. -/
noncomputable def Try.pinned : Pinned := { name := "ytekgmdigchobbaa", sum := "cbe5101771edeb01f2d4a903bde2cc70f9e591bd22cb2334a66f7295386c7d33", checked := Try.checked }
namespace Rows
def none {H : Type} : Left H := { results := [], args := [] }

/-- 'laws.FnTables': WHATEVER THE INPUT: true; the input reads as it did. -/
def fnTablesSpec : ChangeSpec := { name := "fnTables", fn := fun _ => fun
  | [d] => { results := [.lit (.bool true)], args := [d] }
  | _ => none }
def fnTablesRow : OpenClaim := { program := "ytekgmdigchobbaa", sum := "cbe5101771edeb01f2d4a903bde2cc70f9e591bd22cb2334a66f7295386c7d33", func := "loop.example/g01248/laws.FnTables", spec := "fnTables", inPlace := ["internal/abi.NoEscape", "internal/bytealg.MakeNoZero"], unfollowed := true, recurses := true, apart := false }
def FnTablesSaid : Prop := fnTablesRow.holds Try.pinned (OpenSpec.ofChange fnTablesSpec)

/-- ITS FALSE NEIGHBOUR: 'it returns false'. Refute it at one input. -/
def fnTablesWrong : ChangeSpec := { name := "fnTables", fn := fun _ => fun
  | [d] => { results := [.lit (.bool false)], args := [d] }
  | _ => none }
def FnTablesWrongFalsely : Prop := fnTablesRow.holds Try.pinned (OpenSpec.ofChange fnTablesWrong)

/-- 'laws.FnExactIsBare': WHATEVER THE INPUT: true; the input reads as it did. -/
def fnExactIsBareSpec : ChangeSpec := { name := "fnExactIsBare", fn := fun _ => fun
  | [d] => { results := [.lit (.bool true)], args := [d] }
  | _ => none }
def fnExactIsBareRow : OpenClaim := { program := "ytekgmdigchobbaa", sum := "cbe5101771edeb01f2d4a903bde2cc70f9e591bd22cb2334a66f7295386c7d33", func := "loop.example/g01248/laws.FnExactIsBare", spec := "fnExactIsBare", apart := false }
def FnExactIsBareSaid : Prop := fnExactIsBareRow.holds Try.pinned (OpenSpec.ofChange fnExactIsBareSpec)

/-- ITS FALSE NEIGHBOUR: 'it returns false'. Refute it at one input. -/
def fnExactIsBareWrong : ChangeSpec := { name := "fnExactIsBare", fn := fun _ => fun
  | [d] => { results := [.lit (.bool false)], args := [d] }
  | _ => none }
def FnExactIsBareWrongFalsely : Prop := fnExactIsBareRow.holds Try.pinned (OpenSpec.ofChange fnExactIsBareWrong)

/-- 'laws.FnExactCountReadings': WHATEVER THE INPUT: true; the input reads as it did. -/
def fnExactCountReadingsSpec : ChangeSpec := { name := "fnExactCountReadings", fn := fun _ => fun
  | [d1, d2] => { results := [.lit (.bool true)], args := [d1, d2] }
  | _ => none }
def fnExactCountReadingsRow : OpenClaim := { program := "ytekgmdigchobbaa", sum := "cbe5101771edeb01f2d4a903bde2cc70f9e591bd22cb2334a66f7295386c7d33", func := "loop.example/g01248/laws.FnExactCountReadings", spec := "fnExactCountReadings", apart := false }
def FnExactCountReadingsSaid : Prop := fnExactCountReadingsRow.holds Try.pinned (OpenSpec.ofChange fnExactCountReadingsSpec)

/-- ITS FALSE NEIGHBOUR: 'it returns false'. Refute it at one input. -/
def fnExactCountReadingsWrong : ChangeSpec := { name := "fnExactCountReadings", fn := fun _ => fun
  | [d1, d2] => { results := [.lit (.bool false)], args := [d1, d2] }
  | _ => none }
def FnExactCountReadingsWrongFalsely : Prop := fnExactCountReadingsRow.holds Try.pinned (OpenSpec.ofChange fnExactCountReadingsWrong)

/-- 'laws.FnExactReadingAt': WHATEVER THE INPUT: true; the input reads as it did. -/
def fnExactReadingAtSpec : ChangeSpec := { name := "fnExactReadingAt", fn := fun _ => fun
  | [d1, d2, d3] => { results := [.lit (.bool true)], args := [d1, d2, d3] }
  | _ => none }
def fnExactReadingAtRow : OpenClaim := { program := "ytekgmdigchobbaa", sum := "cbe5101771edeb01f2d4a903bde2cc70f9e591bd22cb2334a66f7295386c7d33", func := "loop.example/g01248/laws.FnExactReadingAt", spec := "fnExactReadingAt", unfollowed := true, recurses := true, apart := false }
def FnExactReadingAtSaid : Prop := fnExactReadingAtRow.holds Try.pinned (OpenSpec.ofChange fnExactReadingAtSpec)

/-- ITS FALSE NEIGHBOUR: 'it returns false'. Refute it at one input. -/
def fnExactReadingAtWrong : ChangeSpec := { name := "fnExactReadingAt", fn := fun _ => fun
  | [d1, d2, d3] => { results := [.lit (.bool false)], args := [d1, d2, d3] }
  | _ => none }
def FnExactReadingAtWrongFalsely : Prop := fnExactReadingAtRow.holds Try.pinned (OpenSpec.ofChange fnExactReadingAtWrong)

/-- 'laws.FnExactRankOfReading': WHATEVER THE INPUT: true; the input reads as it did. -/
def fnExactRankOfReadingSpec : ChangeSpec := { name := "fnExactRankOfReading", fn := fun _ => fun
  | [d1, d2] => { results := [.lit (.bool true)], args := [d1, d2] }
  | _ => none }
def fnExactRankOfReadingRow : OpenClaim := { program := "ytekgmdigchobbaa", sum := "cbe5101771edeb01f2d4a903bde2cc70f9e591bd22cb2334a66f7295386c7d33", func := "loop.example/g01248/laws.FnExactRankOfReading", spec := "fnExactRankOfReading", apart := false }
def FnExactRankOfReadingSaid : Prop := fnExactRankOfReadingRow.holds Try.pinned (OpenSpec.ofChange fnExactRankOfReadingSpec)

/-- ITS FALSE NEIGHBOUR: 'it returns false'. Refute it at one input. -/
def fnExactRankOfReadingWrong : ChangeSpec := { name := "fnExactRankOfReading", fn := fun _ => fun
  | [d1, d2] => { results := [.lit (.bool false)], args := [d1, d2] }
  | _ => none }
def FnExactRankOfReadingWrongFalsely : Prop := fnExactRankOfReadingRow.holds Try.pinned (OpenSpec.ofChange fnExactRankOfReadingWrong)

/-- 'laws.FnExactShortestReading': WHATEVER THE INPUT: true; the input reads as it did. -/
def fnExactShortestReadingSpec : ChangeSpec := { name := "fnExactShortestReading", fn := fun _ => fun
  | [d1, d2] => { results := [.lit (.bool true)], args := [d1, d2] }
  | _ => none }
def fnExactShortestReadingRow : OpenClaim := { program := "ytekgmdigchobbaa", sum := "cbe5101771edeb01f2d4a903bde2cc70f9e591bd22cb2334a66f7295386c7d33", func := "loop.example/g01248/laws.FnExactShortestReading", spec := "fnExactShortestReading", unfollowed := true, recurses := true, apart := false }
def FnExactShortestReadingSaid : Prop := fnExactShortestReadingRow.holds Try.pinned (OpenSpec.ofChange fnExactShortestReadingSpec)

/-- ITS FALSE NEIGHBOUR: 'it returns false'. Refute it at one input. -/
def fnExactShortestReadingWrong : ChangeSpec := { name := "fnExactShortestReading", fn := fun _ => fun
  | [d1, d2] => { results := [.lit (.bool false)], args := [d1, d2] }
  | _ => none }
def FnExactShortestReadingWrongFalsely : Prop := fnExactShortestReadingRow.holds Try.pinned (OpenSpec.ofChange fnExactShortestReadingWrong)

/-- 'laws.FnExactLongestReading': WHATEVER THE INPUT: true; the input reads as it did. -/
def fnExactLongestReadingSpec : ChangeSpec := { name := "fnExactLongestReading", fn := fun _ => fun
  | [d1, d2] => { results := [.lit (.bool true)], args := [d1, d2] }
  | _ => none }
def fnExactLongestReadingRow : OpenClaim := { program := "ytekgmdigchobbaa", sum := "cbe5101771edeb01f2d4a903bde2cc70f9e591bd22cb2334a66f7295386c7d33", func := "loop.example/g01248/laws.FnExactLongestReading", spec := "fnExactLongestReading", unfollowed := true, recurses := true, apart := false }
def FnExactLongestReadingSaid : Prop := fnExactLongestReadingRow.holds Try.pinned (OpenSpec.ofChange fnExactLongestReadingSpec)

/-- ITS FALSE NEIGHBOUR: 'it returns false'. Refute it at one input. -/
def fnExactLongestReadingWrong : ChangeSpec := { name := "fnExactLongestReading", fn := fun _ => fun
  | [d1, d2] => { results := [.lit (.bool false)], args := [d1, d2] }
  | _ => none }
def FnExactLongestReadingWrongFalsely : Prop := fnExactLongestReadingRow.holds Try.pinned (OpenSpec.ofChange fnExactLongestReadingWrong)

/-- 'laws.FnExactBordersOf': WHATEVER THE INPUT: true; the input reads as it did. -/
def fnExactBordersOfSpec : ChangeSpec := { name := "fnExactBordersOf", fn := fun _ => fun
  | [d1, d2] => { results := [.lit (.bool true)], args := [d1, d2] }
  | _ => none }
def fnExactBordersOfRow : OpenClaim := { program := "ytekgmdigchobbaa", sum := "cbe5101771edeb01f2d4a903bde2cc70f9e591bd22cb2334a66f7295386c7d33", func := "loop.example/g01248/laws.FnExactBordersOf", spec := "fnExactBordersOf", unfollowed := true, recurses := true, apart := false }
def FnExactBordersOfSaid : Prop := fnExactBordersOfRow.holds Try.pinned (OpenSpec.ofChange fnExactBordersOfSpec)

/-- ITS FALSE NEIGHBOUR: 'it returns false'. Refute it at one input. -/
def fnExactBordersOfWrong : ChangeSpec := { name := "fnExactBordersOf", fn := fun _ => fun
  | [d1, d2] => { results := [.lit (.bool false)], args := [d1, d2] }
  | _ => none }
def FnExactBordersOfWrongFalsely : Prop := fnExactBordersOfRow.holds Try.pinned (OpenSpec.ofChange fnExactBordersOfWrong)

/-- 'laws.FnExactCertainBorders': WHATEVER THE INPUT: true; the input reads as it did. -/
def fnExactCertainBordersSpec : ChangeSpec := { name := "fnExactCertainBorders", fn := fun _ => fun
  | [d1, d2] => { results := [.lit (.bool true)], args := [d1, d2] }
  | _ => none }
def fnExactCertainBordersRow : OpenClaim := { program := "ytekgmdigchobbaa", sum := "cbe5101771edeb01f2d4a903bde2cc70f9e591bd22cb2334a66f7295386c7d33", func := "loop.example/g01248/laws.FnExactCertainBorders", spec := "fnExactCertainBorders", unfollowed := true, recurses := true, apart := false }
def FnExactCertainBordersSaid : Prop := fnExactCertainBordersRow.holds Try.pinned (OpenSpec.ofChange fnExactCertainBordersSpec)

/-- ITS FALSE NEIGHBOUR: 'it returns false'. Refute it at one input. -/
def fnExactCertainBordersWrong : ChangeSpec := { name := "fnExactCertainBorders", fn := fun _ => fun
  | [d1, d2] => { results := [.lit (.bool false)], args := [d1, d2] }
  | _ => none }
def FnExactCertainBordersWrongFalsely : Prop := fnExactCertainBordersRow.holds Try.pinned (OpenSpec.ofChange fnExactCertainBordersWrong)

/-- 'laws.FnExactIsFreeTable': WHATEVER THE INPUT: true; the input reads as it did. -/
def fnExactIsFreeTableSpec : ChangeSpec := { name := "fnExactIsFreeTable", fn := fun _ => fun
  | [d] => { results := [.lit (.bool true)], args := [d] }
  | _ => none }
def fnExactIsFreeTableRow : OpenClaim := { program := "ytekgmdigchobbaa", sum := "cbe5101771edeb01f2d4a903bde2cc70f9e591bd22cb2334a66f7295386c7d33", func := "loop.example/g01248/laws.FnExactIsFreeTable", spec := "fnExactIsFreeTable", apart := false }
def FnExactIsFreeTableSaid : Prop := fnExactIsFreeTableRow.holds Try.pinned (OpenSpec.ofChange fnExactIsFreeTableSpec)

/-- ITS FALSE NEIGHBOUR: 'it returns false'. Refute it at one input. -/
def fnExactIsFreeTableWrong : ChangeSpec := { name := "fnExactIsFreeTable", fn := fun _ => fun
  | [d] => { results := [.lit (.bool false)], args := [d] }
  | _ => none }
def FnExactIsFreeTableWrongFalsely : Prop := fnExactIsFreeTableRow.holds Try.pinned (OpenSpec.ofChange fnExactIsFreeTableWrong)

/-- 'laws.FnExactBeginningPairs': WHATEVER THE INPUT: true; the input reads as it did. -/
def fnExactBeginningPairsSpec : ChangeSpec := { name := "fnExactBeginningPairs", fn := fun _ => fun
  | [d] => { results := [.lit (.bool true)], args := [d] }
  | _ => none }
def fnExactBeginningPairsRow : OpenClaim := { program := "ytekgmdigchobbaa", sum := "cbe5101771edeb01f2d4a903bde2cc70f9e591bd22cb2334a66f7295386c7d33", func := "loop.example/g01248/laws.FnExactBeginningPairs", spec := "fnExactBeginningPairs", apart := false }
def FnExactBeginningPairsSaid : Prop := fnExactBeginningPairsRow.holds Try.pinned (OpenSpec.ofChange fnExactBeginningPairsSpec)

/-- ITS FALSE NEIGHBOUR: 'it returns false'. Refute it at one input. -/
def fnExactBeginningPairsWrong : ChangeSpec := { name := "fnExactBeginningPairs", fn := fun _ => fun
  | [d] => { results := [.lit (.bool false)], args := [d] }
  | _ => none }
def FnExactBeginningPairsWrongFalsely : Prop := fnExactBeginningPairsRow.holds Try.pinned (OpenSpec.ofChange fnExactBeginningPairsWrong)

/- THE SECOND FORM. 'bulk': how many values and letters a reading holds, each counted each time it is reached (what is shared counts as often as it is met; a slice's spare places count too). A statement '..UptoSaid' is the law's where the arguments, and the package variables that the reading takes, are together of bulk at most 1048576: NARROWER than '..Said'. Prove '..Said' where nothing that the law and all that it calls make is longer than what came in: it says more and counts as full. Else prove '..UptoSaid'. A law counts once. -/
mutual
def uptoBulk {H : Type} : DataW H → Nat
  | .lit (.string bytes) => bytes.length + 1
  | .lit _ => 1
  | .nil => 1
  | .ptr d => uptoBulk d + 1
  | .slice elems spare => uptoBulkAll elems + uptoBulkAll spare + 1
  | .agg parts => uptoBulkAll parts + 1
  | .iface _ d => uptoBulk d + 1
  | .map entries => uptoBulkEntries entries + 1
  | .held _ => 1
def uptoBulkAll {H : Type} : List (DataW H) → Nat
  | [] => 0
  | d :: r => uptoBulk d + uptoBulkAll r
def uptoBulkEntries {H : Type} : List (Lit × DataW H) → Nat
  | [] => 0
  | x :: r => uptoBulkEntry x + uptoBulkEntries r
def uptoBulkEntry {H : Type} : Lit × DataW H → Nat
  | (.string bytes, d) => bytes.length + uptoBulk d + 1
  | (_, d) => uptoBulk d + 1
 end
def uptoSmall : (H : Type) → List (DataW H) → Bool := fun _ ds => decide (uptoBulkAll ds ≤ 1048576)
def OpenSpec.upto (s : _root_.Go.ChangeSpec) : _root_.Go.OpenSpec := { _root_.Go.OpenSpec.ofChange s with cond := some uptoSmall }

/-- 'laws.FnTables', WHERE WHAT IT READS IS OF BULK AT MOST 1048576: true; the input reads as it did. -/
def fnTablesUptoRow : OpenClaim := { program := "ytekgmdigchobbaa", sum := "cbe5101771edeb01f2d4a903bde2cc70f9e591bd22cb2334a66f7295386c7d33", func := "loop.example/g01248/laws.FnTables", spec := "fnTables", inPlace := ["internal/abi.NoEscape", "internal/bytealg.MakeNoZero"], unfollowed := true, recurses := true, apart := false, narrowed := true }
def FnTablesUptoSaid : Prop := fnTablesUptoRow.holds Try.pinned (OpenSpec.upto fnTablesSpec)

/-- 'laws.FnExactIsBare', WHERE WHAT IT READS IS OF BULK AT MOST 1048576: true; the input reads as it did. -/
def fnExactIsBareUptoRow : OpenClaim := { program := "ytekgmdigchobbaa", sum := "cbe5101771edeb01f2d4a903bde2cc70f9e591bd22cb2334a66f7295386c7d33", func := "loop.example/g01248/laws.FnExactIsBare", spec := "fnExactIsBare", apart := false, narrowed := true }
def FnExactIsBareUptoSaid : Prop := fnExactIsBareUptoRow.holds Try.pinned (OpenSpec.upto fnExactIsBareSpec)

/-- 'laws.FnExactCountReadings', WHERE WHAT IT READS IS OF BULK AT MOST 1048576: true; the input reads as it did. -/
def fnExactCountReadingsUptoRow : OpenClaim := { program := "ytekgmdigchobbaa", sum := "cbe5101771edeb01f2d4a903bde2cc70f9e591bd22cb2334a66f7295386c7d33", func := "loop.example/g01248/laws.FnExactCountReadings", spec := "fnExactCountReadings", apart := false, narrowed := true }
def FnExactCountReadingsUptoSaid : Prop := fnExactCountReadingsUptoRow.holds Try.pinned (OpenSpec.upto fnExactCountReadingsSpec)

/-- 'laws.FnExactReadingAt', WHERE WHAT IT READS IS OF BULK AT MOST 1048576: true; the input reads as it did. -/
def fnExactReadingAtUptoRow : OpenClaim := { program := "ytekgmdigchobbaa", sum := "cbe5101771edeb01f2d4a903bde2cc70f9e591bd22cb2334a66f7295386c7d33", func := "loop.example/g01248/laws.FnExactReadingAt", spec := "fnExactReadingAt", unfollowed := true, recurses := true, apart := false, narrowed := true }
def FnExactReadingAtUptoSaid : Prop := fnExactReadingAtUptoRow.holds Try.pinned (OpenSpec.upto fnExactReadingAtSpec)

/-- 'laws.FnExactRankOfReading', WHERE WHAT IT READS IS OF BULK AT MOST 1048576: true; the input reads as it did. -/
def fnExactRankOfReadingUptoRow : OpenClaim := { program := "ytekgmdigchobbaa", sum := "cbe5101771edeb01f2d4a903bde2cc70f9e591bd22cb2334a66f7295386c7d33", func := "loop.example/g01248/laws.FnExactRankOfReading", spec := "fnExactRankOfReading", apart := false, narrowed := true }
def FnExactRankOfReadingUptoSaid : Prop := fnExactRankOfReadingUptoRow.holds Try.pinned (OpenSpec.upto fnExactRankOfReadingSpec)

/-- 'laws.FnExactShortestReading', WHERE WHAT IT READS IS OF BULK AT MOST 1048576: true; the input reads as it did. -/
def fnExactShortestReadingUptoRow : OpenClaim := { program := "ytekgmdigchobbaa", sum := "cbe5101771edeb01f2d4a903bde2cc70f9e591bd22cb2334a66f7295386c7d33", func := "loop.example/g01248/laws.FnExactShortestReading", spec := "fnExactShortestReading", unfollowed := true, recurses := true, apart := false, narrowed := true }
def FnExactShortestReadingUptoSaid : Prop := fnExactShortestReadingUptoRow.holds Try.pinned (OpenSpec.upto fnExactShortestReadingSpec)

/-- 'laws.FnExactLongestReading', WHERE WHAT IT READS IS OF BULK AT MOST 1048576: true; the input reads as it did. -/
def fnExactLongestReadingUptoRow : OpenClaim := { program := "ytekgmdigchobbaa", sum := "cbe5101771edeb01f2d4a903bde2cc70f9e591bd22cb2334a66f7295386c7d33", func := "loop.example/g01248/laws.FnExactLongestReading", spec := "fnExactLongestReading", unfollowed := true, recurses := true, apart := false, narrowed := true }
def FnExactLongestReadingUptoSaid : Prop := fnExactLongestReadingUptoRow.holds Try.pinned (OpenSpec.upto fnExactLongestReadingSpec)

/-- 'laws.FnExactBordersOf', WHERE WHAT IT READS IS OF BULK AT MOST 1048576: true; the input reads as it did. -/
def fnExactBordersOfUptoRow : OpenClaim := { program := "ytekgmdigchobbaa", sum := "cbe5101771edeb01f2d4a903bde2cc70f9e591bd22cb2334a66f7295386c7d33", func := "loop.example/g01248/laws.FnExactBordersOf", spec := "fnExactBordersOf", unfollowed := true, recurses := true, apart := false, narrowed := true }
def FnExactBordersOfUptoSaid : Prop := fnExactBordersOfUptoRow.holds Try.pinned (OpenSpec.upto fnExactBordersOfSpec)

/-- 'laws.FnExactCertainBorders', WHERE WHAT IT READS IS OF BULK AT MOST 1048576: true; the input reads as it did. -/
def fnExactCertainBordersUptoRow : OpenClaim := { program := "ytekgmdigchobbaa", sum := "cbe5101771edeb01f2d4a903bde2cc70f9e591bd22cb2334a66f7295386c7d33", func := "loop.example/g01248/laws.FnExactCertainBorders", spec := "fnExactCertainBorders", unfollowed := true, recurses := true, apart := false, narrowed := true }
def FnExactCertainBordersUptoSaid : Prop := fnExactCertainBordersUptoRow.holds Try.pinned (OpenSpec.upto fnExactCertainBordersSpec)

/-- 'laws.FnExactIsFreeTable', WHERE WHAT IT READS IS OF BULK AT MOST 1048576: true; the input reads as it did. -/
def fnExactIsFreeTableUptoRow : OpenClaim := { program := "ytekgmdigchobbaa", sum := "cbe5101771edeb01f2d4a903bde2cc70f9e591bd22cb2334a66f7295386c7d33", func := "loop.example/g01248/laws.FnExactIsFreeTable", spec := "fnExactIsFreeTable", apart := false, narrowed := true }
def FnExactIsFreeTableUptoSaid : Prop := fnExactIsFreeTableUptoRow.holds Try.pinned (OpenSpec.upto fnExactIsFreeTableSpec)

/-- 'laws.FnExactBeginningPairs', WHERE WHAT IT READS IS OF BULK AT MOST 1048576: true; the input reads as it did. -/
def fnExactBeginningPairsUptoRow : OpenClaim := { program := "ytekgmdigchobbaa", sum := "cbe5101771edeb01f2d4a903bde2cc70f9e591bd22cb2334a66f7295386c7d33", func := "loop.example/g01248/laws.FnExactBeginningPairs", spec := "fnExactBeginningPairs", apart := false, narrowed := true }
def FnExactBeginningPairsUptoSaid : Prop := fnExactBeginningPairsUptoRow.holds Try.pinned (OpenSpec.upto fnExactBeginningPairsSpec)

end Rows
end Go.Proofs.Ytekgmdigchobbaa
