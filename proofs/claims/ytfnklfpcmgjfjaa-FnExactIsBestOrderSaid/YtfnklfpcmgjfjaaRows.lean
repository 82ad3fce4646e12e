/-
  No cell of these rows narrows 'for every input' (looked for: loops, veiled, ifaces, maps, wideKeys, modest, calm, conditions, laid).
  DERIVED. THE GIVEN ROWS OF THIS SEAT. 12 by the template 'for every input the law returns true; each argument reads behind the call as it read before'; 0 by the template 'total and deterministic' (their statements: YtfnklfpcmgjfjaaTotals.lean).
  GIVEN WITH THE SEED: the statements are not yours to turn. If you find one false, say at which input.
  Laid BY PROGRAM, IN A SANDBOX (cutbox-rows.mjs): the forced cells as the released guide's own fill.sh prints them over the translation 177044af1b4bd090… (all of the seat's roots in one cut). By AI agents, Wed Nov 11 2026. No macro, syntax, notation, axiom, sorry.
-/
import Derived.Test.YtfnklfpcmgjfjaaChecked
import GoSem.Claim
import GoSem.ClaimJoined
import GoSem.ClaimMapViews
import Derived.JoinedTies
import Derived.KernelRfl
namespace Go.Proofs.Ytfnklfpcmgjfjaa
/- THE CELL 'sum', in the pinned program and in every row, IS THE sha256 OF THE DUMP (.gsa) THAT YtfnklfpcmgjfjaaProg.lean LOADS. Nothing in Lean hashes anything: it is a label: what it is worth is what the hold of that sum in a sandbox is worth. -/
noncomputable def Try.pinned : Pinned := { name := "ytfnklfpcmgjfjaa", sum := "177044af1b4bd0908c1e782a4a7b1d7d6408ca738ad470bdee3cd5142b29ebd0", checked := Try.checked }
namespace Rows
def none {H : Type} : Left H := { results := [], args := [] }

/-- 'laws.FnExactCostOf': WHATEVER THE INPUT: true; the input reads as it did. -/
def fnExactCostOfSpec : ChangeSpec := { name := "fnExactCostOf", fn := fun _ => fun
  | [d1, d2] => { results := [.lit (.bool true)], args := [d1, d2] }
  | _ => none }
def fnExactCostOfRow : OpenClaim := { program := "ytfnklfpcmgjfjaa", sum := "177044af1b4bd0908c1e782a4a7b1d7d6408ca738ad470bdee3cd5142b29ebd0", func := "loop.example/g01248/laws.FnExactCostOf", spec := "fnExactCostOf", apart := false }
def FnExactCostOfSaid : Prop := fnExactCostOfRow.holds Try.pinned (OpenSpec.ofChange fnExactCostOfSpec)

/-- ITS FALSE NEIGHBOUR: 'it returns false'. Refute it at one input. -/
def fnExactCostOfWrong : ChangeSpec := { name := "fnExactCostOf", fn := fun _ => fun
  | [d1, d2] => { results := [.lit (.bool false)], args := [d1, d2] }
  | _ => none }
def FnExactCostOfWrongFalsely : Prop := fnExactCostOfRow.holds Try.pinned (OpenSpec.ofChange fnExactCostOfWrong)

/-- 'laws.FnExactMarksBefore': WHATEVER THE INPUT: true; the input reads as it did. -/
def fnExactMarksBeforeSpec : ChangeSpec := { name := "fnExactMarksBefore", fn := fun _ => fun
  | [d1, d2] => { results := [.lit (.bool true)], args := [d1, d2] }
  | _ => none }
def fnExactMarksBeforeRow : OpenClaim := { program := "ytfnklfpcmgjfjaa", sum := "177044af1b4bd0908c1e782a4a7b1d7d6408ca738ad470bdee3cd5142b29ebd0", func := "loop.example/g01248/laws.FnExactMarksBefore", spec := "fnExactMarksBefore", apart := false }
def FnExactMarksBeforeSaid : Prop := fnExactMarksBeforeRow.holds Try.pinned (OpenSpec.ofChange fnExactMarksBeforeSpec)

/-- ITS FALSE NEIGHBOUR: 'it returns false'. Refute it at one input. -/
def fnExactMarksBeforeWrong : ChangeSpec := { name := "fnExactMarksBefore", fn := fun _ => fun
  | [d1, d2] => { results := [.lit (.bool false)], args := [d1, d2] }
  | _ => none }
def FnExactMarksBeforeWrongFalsely : Prop := fnExactMarksBeforeRow.holds Try.pinned (OpenSpec.ofChange fnExactMarksBeforeWrong)

/-- 'laws.FnExactCheapestMarks': WHATEVER THE INPUT: true; the input reads as it did. -/
def fnExactCheapestMarksSpec : ChangeSpec := { name := "fnExactCheapestMarks", fn := fun _ => fun
  | [d] => { results := [.lit (.bool true)], args := [d] }
  | _ => none }
def fnExactCheapestMarksRow : OpenClaim := { program := "ytfnklfpcmgjfjaa", sum := "177044af1b4bd0908c1e782a4a7b1d7d6408ca738ad470bdee3cd5142b29ebd0", func := "loop.example/g01248/laws.FnExactCheapestMarks", spec := "fnExactCheapestMarks", inPlace := ["internal/reflectlite.ValueOf", "internal/reflectlite.Swapper", "(internal/reflectlite.Value).Len"], unfollowed := true, recurses := true, apart := false }
def FnExactCheapestMarksSaid : Prop := fnExactCheapestMarksRow.holds Try.pinned (OpenSpec.ofChange fnExactCheapestMarksSpec)

/-- ITS FALSE NEIGHBOUR: 'it returns false'. Refute it at one input. -/
def fnExactCheapestMarksWrong : ChangeSpec := { name := "fnExactCheapestMarks", fn := fun _ => fun
  | [d] => { results := [.lit (.bool false)], args := [d] }
  | _ => none }
def FnExactCheapestMarksWrongFalsely : Prop := fnExactCheapestMarksRow.holds Try.pinned (OpenSpec.ofChange fnExactCheapestMarksWrong)

/-- 'laws.FnExactBestFrom': WHATEVER THE INPUT: true; the input reads as it did. -/
def fnExactBestFromSpec : ChangeSpec := { name := "fnExactBestFrom", fn := fun _ => fun
  | [d1, d2] => { results := [.lit (.bool true)], args := [d1, d2] }
  | _ => none }
def fnExactBestFromRow : OpenClaim := { program := "ytfnklfpcmgjfjaa", sum := "177044af1b4bd0908c1e782a4a7b1d7d6408ca738ad470bdee3cd5142b29ebd0", func := "loop.example/g01248/laws.FnExactBestFrom", spec := "fnExactBestFrom", inPlace := ["internal/reflectlite.ValueOf", "internal/reflectlite.Swapper", "(internal/reflectlite.Value).Len"], unfollowed := true, recurses := true, apart := false }
def FnExactBestFromSaid : Prop := fnExactBestFromRow.holds Try.pinned (OpenSpec.ofChange fnExactBestFromSpec)

/-- ITS FALSE NEIGHBOUR: 'it returns false'. Refute it at one input. -/
def fnExactBestFromWrong : ChangeSpec := { name := "fnExactBestFrom", fn := fun _ => fun
  | [d1, d2] => { results := [.lit (.bool false)], args := [d1, d2] }
  | _ => none }
def FnExactBestFromWrongFalsely : Prop := fnExactBestFromRow.holds Try.pinned (OpenSpec.ofChange fnExactBestFromWrong)

/-- 'laws.FnExactBestTable': WHATEVER THE INPUT: true; the input reads as it did. -/
def fnExactBestTableSpec : ChangeSpec := { name := "fnExactBestTable", fn := fun _ => fun
  | [d] => { results := [.lit (.bool true)], args := [d] }
  | _ => none }
def fnExactBestTableRow : OpenClaim := { program := "ytfnklfpcmgjfjaa", sum := "177044af1b4bd0908c1e782a4a7b1d7d6408ca738ad470bdee3cd5142b29ebd0", func := "loop.example/g01248/laws.FnExactBestTable", spec := "fnExactBestTable", inPlace := ["internal/reflectlite.ValueOf", "internal/reflectlite.Swapper", "(internal/reflectlite.Value).Len"], unfollowed := true, recurses := true, apart := false }
def FnExactBestTableSaid : Prop := fnExactBestTableRow.holds Try.pinned (OpenSpec.ofChange fnExactBestTableSpec)

/-- ITS FALSE NEIGHBOUR: 'it returns false'. Refute it at one input. -/
def fnExactBestTableWrong : ChangeSpec := { name := "fnExactBestTable", fn := fun _ => fun
  | [d] => { results := [.lit (.bool false)], args := [d] }
  | _ => none }
def FnExactBestTableWrongFalsely : Prop := fnExactBestTableRow.holds Try.pinned (OpenSpec.ofChange fnExactBestTableWrong)

/-- 'laws.FnExactBestCost': WHATEVER THE INPUT: true; the input reads as it did. -/
def fnExactBestCostSpec : ChangeSpec := { name := "fnExactBestCost", fn := fun _ => fun
  | [d] => { results := [.lit (.bool true)], args := [d] }
  | _ => none }
def fnExactBestCostRow : OpenClaim := { program := "ytfnklfpcmgjfjaa", sum := "177044af1b4bd0908c1e782a4a7b1d7d6408ca738ad470bdee3cd5142b29ebd0", func := "loop.example/g01248/laws.FnExactBestCost", spec := "fnExactBestCost", inPlace := ["internal/reflectlite.ValueOf", "internal/reflectlite.Swapper", "(internal/reflectlite.Value).Len"], unfollowed := true, recurses := true, apart := false }
def FnExactBestCostSaid : Prop := fnExactBestCostRow.holds Try.pinned (OpenSpec.ofChange fnExactBestCostSpec)

/-- ITS FALSE NEIGHBOUR: 'it returns false'. Refute it at one input. -/
def fnExactBestCostWrong : ChangeSpec := { name := "fnExactBestCost", fn := fun _ => fun
  | [d] => { results := [.lit (.bool false)], args := [d] }
  | _ => none }
def FnExactBestCostWrongFalsely : Prop := fnExactBestCostRow.holds Try.pinned (OpenSpec.ofChange fnExactBestCostWrong)

/-- 'laws.FnExactIsBestOrder': WHATEVER THE INPUT: true; the input reads as it did. -/
def fnExactIsBestOrderSpec : ChangeSpec := { name := "fnExactIsBestOrder", fn := fun _ => fun
  | [d1, d2] => { results := [.lit (.bool true)], args := [d1, d2] }
  | _ => none }
def fnExactIsBestOrderRow : OpenClaim := { program := "ytfnklfpcmgjfjaa", sum := "177044af1b4bd0908c1e782a4a7b1d7d6408ca738ad470bdee3cd5142b29ebd0", func := "loop.example/g01248/laws.FnExactIsBestOrder", spec := "fnExactIsBestOrder", inPlace := ["internal/reflectlite.ValueOf", "internal/reflectlite.Swapper", "(internal/reflectlite.Value).Len"], unfollowed := true, recurses := true, apart := false }
def FnExactIsBestOrderSaid : Prop := fnExactIsBestOrderRow.holds Try.pinned (OpenSpec.ofChange fnExactIsBestOrderSpec)

/-- ITS FALSE NEIGHBOUR: 'it returns false'. Refute it at one input. -/
def fnExactIsBestOrderWrong : ChangeSpec := { name := "fnExactIsBestOrder", fn := fun _ => fun
  | [d1, d2] => { results := [.lit (.bool false)], args := [d1, d2] }
  | _ => none }
def FnExactIsBestOrderWrongFalsely : Prop := fnExactIsBestOrderRow.holds Try.pinned (OpenSpec.ofChange fnExactIsBestOrderWrong)

/-- 'laws.FnExactBestSwap': WHATEVER THE INPUT: true; the input reads as it did. -/
def fnExactBestSwapSpec : ChangeSpec := { name := "fnExactBestSwap", fn := fun _ => fun
  | [d1, d2] => { results := [.lit (.bool true)], args := [d1, d2] }
  | _ => none }
def fnExactBestSwapRow : OpenClaim := { program := "ytfnklfpcmgjfjaa", sum := "177044af1b4bd0908c1e782a4a7b1d7d6408ca738ad470bdee3cd5142b29ebd0", func := "loop.example/g01248/laws.FnExactBestSwap", spec := "fnExactBestSwap", apart := false }
def FnExactBestSwapSaid : Prop := fnExactBestSwapRow.holds Try.pinned (OpenSpec.ofChange fnExactBestSwapSpec)

/-- ITS FALSE NEIGHBOUR: 'it returns false'. Refute it at one input. -/
def fnExactBestSwapWrong : ChangeSpec := { name := "fnExactBestSwap", fn := fun _ => fun
  | [d1, d2] => { results := [.lit (.bool false)], args := [d1, d2] }
  | _ => none }
def FnExactBestSwapWrongFalsely : Prop := fnExactBestSwapRow.holds Try.pinned (OpenSpec.ofChange fnExactBestSwapWrong)

/-- 'laws.FnExactSwapsToBest': WHATEVER THE INPUT: true; the input reads as it did. -/
def fnExactSwapsToBestSpec : ChangeSpec := { name := "fnExactSwapsToBest", fn := fun _ => fun
  | [d1, d2] => { results := [.lit (.bool true)], args := [d1, d2] }
  | _ => none }
def fnExactSwapsToBestRow : OpenClaim := { program := "ytfnklfpcmgjfjaa", sum := "177044af1b4bd0908c1e782a4a7b1d7d6408ca738ad470bdee3cd5142b29ebd0", func := "loop.example/g01248/laws.FnExactSwapsToBest", spec := "fnExactSwapsToBest", apart := false }
def FnExactSwapsToBestSaid : Prop := fnExactSwapsToBestRow.holds Try.pinned (OpenSpec.ofChange fnExactSwapsToBestSpec)

/-- ITS FALSE NEIGHBOUR: 'it returns false'. Refute it at one input. -/
def fnExactSwapsToBestWrong : ChangeSpec := { name := "fnExactSwapsToBest", fn := fun _ => fun
  | [d1, d2] => { results := [.lit (.bool false)], args := [d1, d2] }
  | _ => none }
def FnExactSwapsToBestWrongFalsely : Prop := fnExactSwapsToBestRow.holds Try.pinned (OpenSpec.ofChange fnExactSwapsToBestWrong)

/-- 'laws.FnExactWeightsOf': WHATEVER THE INPUT: true; the input reads as it did. -/
def fnExactWeightsOfSpec : ChangeSpec := { name := "fnExactWeightsOf", fn := fun _ => fun
  | [d1, d2] => { results := [.lit (.bool true)], args := [d1, d2] }
  | _ => none }
def fnExactWeightsOfRow : OpenClaim := { program := "ytfnklfpcmgjfjaa", sum := "177044af1b4bd0908c1e782a4a7b1d7d6408ca738ad470bdee3cd5142b29ebd0", func := "loop.example/g01248/laws.FnExactWeightsOf", spec := "fnExactWeightsOf", apart := false }
def FnExactWeightsOfSaid : Prop := fnExactWeightsOfRow.holds Try.pinned (OpenSpec.ofChange fnExactWeightsOfSpec)

/-- ITS FALSE NEIGHBOUR: 'it returns false'. Refute it at one input. -/
def fnExactWeightsOfWrong : ChangeSpec := { name := "fnExactWeightsOf", fn := fun _ => fun
  | [d1, d2] => { results := [.lit (.bool false)], args := [d1, d2] }
  | _ => none }
def FnExactWeightsOfWrongFalsely : Prop := fnExactWeightsOfRow.holds Try.pinned (OpenSpec.ofChange fnExactWeightsOfWrong)

/-- 'laws.FnExactOpenMarks': WHATEVER THE INPUT: true; the input reads as it did. -/
def fnExactOpenMarksSpec : ChangeSpec := { name := "fnExactOpenMarks", fn := fun _ => fun
  | [d] => { results := [.lit (.bool true)], args := [d] }
  | _ => none }
def fnExactOpenMarksRow : OpenClaim := { program := "ytfnklfpcmgjfjaa", sum := "177044af1b4bd0908c1e782a4a7b1d7d6408ca738ad470bdee3cd5142b29ebd0", func := "loop.example/g01248/laws.FnExactOpenMarks", spec := "fnExactOpenMarks", inPlace := ["internal/reflectlite.ValueOf", "internal/reflectlite.Swapper", "(internal/reflectlite.Value).Len"], unfollowed := true, recurses := true, apart := false }
def FnExactOpenMarksSaid : Prop := fnExactOpenMarksRow.holds Try.pinned (OpenSpec.ofChange fnExactOpenMarksSpec)

/-- ITS FALSE NEIGHBOUR: 'it returns false'. Refute it at one input. -/
def fnExactOpenMarksWrong : ChangeSpec := { name := "fnExactOpenMarks", fn := fun _ => fun
  | [d] => { results := [.lit (.bool false)], args := [d] }
  | _ => none }
def FnExactOpenMarksWrongFalsely : Prop := fnExactOpenMarksRow.holds Try.pinned (OpenSpec.ofChange fnExactOpenMarksWrong)

/-- 'laws.FnExactCountByTime': WHATEVER THE INPUT: true; the input reads as it did. -/
def fnExactCountByTimeSpec : ChangeSpec := { name := "fnExactCountByTime", fn := fun _ => fun
  | [d] => { results := [.lit (.bool true)], args := [d] }
  | _ => none }
def fnExactCountByTimeRow : OpenClaim := { program := "ytfnklfpcmgjfjaa", sum := "177044af1b4bd0908c1e782a4a7b1d7d6408ca738ad470bdee3cd5142b29ebd0", func := "loop.example/g01248/laws.FnExactCountByTime", spec := "fnExactCountByTime", apart := false }
def FnExactCountByTimeSaid : Prop := fnExactCountByTimeRow.holds Try.pinned (OpenSpec.ofChange fnExactCountByTimeSpec)

/-- ITS FALSE NEIGHBOUR: 'it returns false'. Refute it at one input. -/
def fnExactCountByTimeWrong : ChangeSpec := { name := "fnExactCountByTime", fn := fun _ => fun
  | [d] => { results := [.lit (.bool false)], args := [d] }
  | _ => none }
def FnExactCountByTimeWrongFalsely : Prop := fnExactCountByTimeRow.holds Try.pinned (OpenSpec.ofChange fnExactCountByTimeWrong)

/- THE SECOND FORM. 'bulk': how many values and letters a reading holds, each counted each time it is reached (what is shared counts as often as it is met; a slice's spare places count too). A statement '..UptoSaid' is the law's where the arguments, and the package variables that the reading takes, are together of bulk at most 1048576: NARROWER than '..Said'. Prove '..Said' where nothing that the law and all that it calls make is longer than what came in: it says more and counts as full. Else prove '..UptoSaid'. A law counts once. -/
mutual
def uptoBulk {H : Type} : DataW H → Nat
  | .lit (.string bytes) => bytes.length + 1
  | .lit _ => 1
  | .nil => 1
  | .ptr d => uptoBulk d + 1
  | .slice elems spare => uptoBulkAll elems + uptoBulkAll spare + 1
  | .agg parts => uptoBulkAll parts + 1
  | .iface _ d => uptoBulk d + 1
  | .map entries => uptoBulkEntries entries + 1
  | .held _ => 1
def uptoBulkAll {H : Type} : List (DataW H) → Nat
  | [] => 0
  | d :: r => uptoBulk d + uptoBulkAll r
def uptoBulkEntries {H : Type} : List (Lit × DataW H) → Nat
  | [] => 0
  | x :: r => uptoBulkEntry x + uptoBulkEntries r
def uptoBulkEntry {H : Type} : Lit × DataW H → Nat
  | (.string bytes, d) => bytes.length + uptoBulk d + 1
  | (_, d) => uptoBulk d + 1
 end
def uptoSmall : (H : Type) → List (DataW H) → Bool := fun _ ds => decide (uptoBulkAll ds ≤ 1048576)
def OpenSpec.upto (s : _root_.Go.ChangeSpec) : _root_.Go.OpenSpec := { _root_.Go.OpenSpec.ofChange s with cond := some uptoSmall }

/-- 'laws.FnExactCostOf', WHERE WHAT IT READS IS OF BULK AT MOST 1048576: true; the input reads as it did. -/
def fnExactCostOfUptoRow : OpenClaim := { program := "ytfnklfpcmgjfjaa", sum := "177044af1b4bd0908c1e782a4a7b1d7d6408ca738ad470bdee3cd5142b29ebd0", func := "loop.example/g01248/laws.FnExactCostOf", spec := "fnExactCostOf", apart := false, narrowed := true }
def FnExactCostOfUptoSaid : Prop := fnExactCostOfUptoRow.holds Try.pinned (OpenSpec.upto fnExactCostOfSpec)

/-- 'laws.FnExactMarksBefore', WHERE WHAT IT READS IS OF BULK AT MOST 1048576: true; the input reads as it did. -/
def fnExactMarksBeforeUptoRow : OpenClaim := { program := "ytfnklfpcmgjfjaa", sum := "177044af1b4bd0908c1e782a4a7b1d7d6408ca738ad470bdee3cd5142b29ebd0", func := "loop.example/g01248/laws.FnExactMarksBefore", spec := "fnExactMarksBefore", apart := false, narrowed := true }
def FnExactMarksBeforeUptoSaid : Prop := fnExactMarksBeforeUptoRow.holds Try.pinned (OpenSpec.upto fnExactMarksBeforeSpec)

/-- 'laws.FnExactCheapestMarks', WHERE WHAT IT READS IS OF BULK AT MOST 1048576: true; the input reads as it did. -/
def fnExactCheapestMarksUptoRow : OpenClaim := { program := "ytfnklfpcmgjfjaa", sum := "177044af1b4bd0908c1e782a4a7b1d7d6408ca738ad470bdee3cd5142b29ebd0", func := "loop.example/g01248/laws.FnExactCheapestMarks", spec := "fnExactCheapestMarks", inPlace := ["internal/reflectlite.ValueOf", "internal/reflectlite.Swapper", "(internal/reflectlite.Value).Len"], unfollowed := true, recurses := true, apart := false, narrowed := true }
def FnExactCheapestMarksUptoSaid : Prop := fnExactCheapestMarksUptoRow.holds Try.pinned (OpenSpec.upto fnExactCheapestMarksSpec)

/-- 'laws.FnExactBestFrom', WHERE WHAT IT READS IS OF BULK AT MOST 1048576: true; the input reads as it did. -/
def fnExactBestFromUptoRow : OpenClaim := { program := "ytfnklfpcmgjfjaa", sum := "177044af1b4bd0908c1e782a4a7b1d7d6408ca738ad470bdee3cd5142b29ebd0", func := "loop.example/g01248/laws.FnExactBestFrom", spec := "fnExactBestFrom", inPlace := ["internal/reflectlite.ValueOf", "internal/reflectlite.Swapper", "(internal/reflectlite.Value).Len"], unfollowed := true, recurses := true, apart := false, narrowed := true }
def FnExactBestFromUptoSaid : Prop := fnExactBestFromUptoRow.holds Try.pinned (OpenSpec.upto fnExactBestFromSpec)

/-- 'laws.FnExactBestTable', WHERE WHAT IT READS IS OF BULK AT MOST 1048576: true; the input reads as it did. -/
def fnExactBestTableUptoRow : OpenClaim := { program := "ytfnklfpcmgjfjaa", sum := "177044af1b4bd0908c1e782a4a7b1d7d6408ca738ad470bdee3cd5142b29ebd0", func := "loop.example/g01248/laws.FnExactBestTable", spec := "fnExactBestTable", inPlace := ["internal/reflectlite.ValueOf", "internal/reflectlite.Swapper", "(internal/reflectlite.Value).Len"], unfollowed := true, recurses := true, apart := false, narrowed := true }
def FnExactBestTableUptoSaid : Prop := fnExactBestTableUptoRow.holds Try.pinned (OpenSpec.upto fnExactBestTableSpec)

/-- 'laws.FnExactBestCost', WHERE WHAT IT READS IS OF BULK AT MOST 1048576: true; the input reads as it did. -/
def fnExactBestCostUptoRow : OpenClaim := { program := "ytfnklfpcmgjfjaa", sum := "177044af1b4bd0908c1e782a4a7b1d7d6408ca738ad470bdee3cd5142b29ebd0", func := "loop.example/g01248/laws.FnExactBestCost", spec := "fnExactBestCost", inPlace := ["internal/reflectlite.ValueOf", "internal/reflectlite.Swapper", "(internal/reflectlite.Value).Len"], unfollowed := true, recurses := true, apart := false, narrowed := true }
def FnExactBestCostUptoSaid : Prop := fnExactBestCostUptoRow.holds Try.pinned (OpenSpec.upto fnExactBestCostSpec)

/-- 'laws.FnExactIsBestOrder', WHERE WHAT IT READS IS OF BULK AT MOST 1048576: true; the input reads as it did. -/
def fnExactIsBestOrderUptoRow : OpenClaim := { program := "ytfnklfpcmgjfjaa", sum := "177044af1b4bd0908c1e782a4a7b1d7d6408ca738ad470bdee3cd5142b29ebd0", func := "loop.example/g01248/laws.FnExactIsBestOrder", spec := "fnExactIsBestOrder", inPlace := ["internal/reflectlite.ValueOf", "internal/reflectlite.Swapper", "(internal/reflectlite.Value).Len"], unfollowed := true, recurses := true, apart := false, narrowed := true }
def FnExactIsBestOrderUptoSaid : Prop := fnExactIsBestOrderUptoRow.holds Try.pinned (OpenSpec.upto fnExactIsBestOrderSpec)

/-- 'laws.FnExactBestSwap', WHERE WHAT IT READS IS OF BULK AT MOST 1048576: true; the input reads as it did. -/
def fnExactBestSwapUptoRow : OpenClaim := { program := "ytfnklfpcmgjfjaa", sum := "177044af1b4bd0908c1e782a4a7b1d7d6408ca738ad470bdee3cd5142b29ebd0", func := "loop.example/g01248/laws.FnExactBestSwap", spec := "fnExactBestSwap", apart := false, narrowed := true }
def FnExactBestSwapUptoSaid : Prop := fnExactBestSwapUptoRow.holds Try.pinned (OpenSpec.upto fnExactBestSwapSpec)

/-- 'laws.FnExactSwapsToBest', WHERE WHAT IT READS IS OF BULK AT MOST 1048576: true; the input reads as it did. -/
def fnExactSwapsToBestUptoRow : OpenClaim := { program := "ytfnklfpcmgjfjaa", sum := "177044af1b4bd0908c1e782a4a7b1d7d6408ca738ad470bdee3cd5142b29ebd0", func := "loop.example/g01248/laws.FnExactSwapsToBest", spec := "fnExactSwapsToBest", apart := false, narrowed := true }
def FnExactSwapsToBestUptoSaid : Prop := fnExactSwapsToBestUptoRow.holds Try.pinned (OpenSpec.upto fnExactSwapsToBestSpec)

/-- 'laws.FnExactWeightsOf', WHERE WHAT IT READS IS OF BULK AT MOST 1048576: true; the input reads as it did. -/
def fnExactWeightsOfUptoRow : OpenClaim := { program := "ytfnklfpcmgjfjaa", sum := "177044af1b4bd0908c1e782a4a7b1d7d6408ca738ad470bdee3cd5142b29ebd0", func := "loop.example/g01248/laws.FnExactWeightsOf", spec := "fnExactWeightsOf", apart := false, narrowed := true }
def FnExactWeightsOfUptoSaid : Prop := fnExactWeightsOfUptoRow.holds Try.pinned (OpenSpec.upto fnExactWeightsOfSpec)

/-- 'laws.FnExactOpenMarks', WHERE WHAT IT READS IS OF BULK AT MOST 1048576: true; the input reads as it did. -/
def fnExactOpenMarksUptoRow : OpenClaim := { program := "ytfnklfpcmgjfjaa", sum := "177044af1b4bd0908c1e782a4a7b1d7d6408ca738ad470bdee3cd5142b29ebd0", func := "loop.example/g01248/laws.FnExactOpenMarks", spec := "fnExactOpenMarks", inPlace := ["internal/reflectlite.ValueOf", "internal/reflectlite.Swapper", "(internal/reflectlite.Value).Len"], unfollowed := true, recurses := true, apart := false, narrowed := true }
def FnExactOpenMarksUptoSaid : Prop := fnExactOpenMarksUptoRow.holds Try.pinned (OpenSpec.upto fnExactOpenMarksSpec)

/-- 'laws.FnExactCountByTime', WHERE WHAT IT READS IS OF BULK AT MOST 1048576: true; the input reads as it did. -/
def fnExactCountByTimeUptoRow : OpenClaim := { program := "ytfnklfpcmgjfjaa", sum := "177044af1b4bd0908c1e782a4a7b1d7d6408ca738ad470bdee3cd5142b29ebd0", func := "loop.example/g01248/laws.FnExactCountByTime", spec := "fnExactCountByTime", apart := false, narrowed := true }
def FnExactCountByTimeUptoSaid : Prop := fnExactCountByTimeUptoRow.holds Try.pinned (OpenSpec.upto fnExactCountByTimeSpec)

end Rows
end Go.Proofs.Ytfnklfpcmgjfjaa
