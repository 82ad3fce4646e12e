/-
  No cell of these rows narrows 'for every input' (looked for: loops, veiled, ifaces, maps, wideKeys, modest, calm, conditions, laid).
  DERIVED. THE GIVEN ROWS OF THIS SEAT. 15 by the template 'for every input the law returns true; each argument reads behind the call as it read before'; 0 by the template 'total and deterministic' (their statements: YtgdiffdpjpkleaaTotals.lean).
  GIVEN WITH THE SEED: the statements are not yours to turn. If you find one false, say at which input.
  Laid BY PROGRAM, IN A SANDBOX (cutbox-rows.mjs): the forced cells as the released guide's own fill.sh prints them over the translation 4bd6a015512cbd00… (all of the seat's roots in one cut). By AI agents, Wed Nov 11 2026. No macro, syntax, notation, axiom, sorry.
-/
import Derived.Test.YtgdiffdpjpkleaaChecked
import GoSem.Claim
import GoSem.ClaimJoined
import GoSem.ClaimMapViews
import Derived.JoinedTies
import Derived.KernelRfl
namespace Go.Proofs.Ytgdiffdpjpkleaa
/- THE CELL 'sum', in the pinned program and in every row, IS THE sha256 OF THE DUMP (.gsa) THAT YtgdiffdpjpkleaaProg.lean LOADS. Nothing in Lean hashes anything: it is a label: what it is worth is what the hold of that sum in a sandbox is worth. -/
noncomputable def Try.pinned : Pinned := { name := "ytgdiffdpjpkleaa", sum := "4bd6a015512cbd00f90f361dbe36257d911431740e9c2d46a2d8deb5f80f5fec", checked := Try.checked }
namespace Rows
def none {H : Type} : Left H := { results := [], args := [] }

/-- 'laws.FnExactMarkDistance': WHATEVER THE INPUT: true; the input reads as it did. -/
def fnExactMarkDistanceSpec : ChangeSpec := { name := "fnExactMarkDistance", fn := fun _ => fun
  | [d1, d2] => { results := [.lit (.bool true)], args := [d1, d2] }
  | _ => none }
def fnExactMarkDistanceRow : OpenClaim := { program := "ytgdiffdpjpkleaa", sum := "4bd6a015512cbd00f90f361dbe36257d911431740e9c2d46a2d8deb5f80f5fec", func := "loop.example/g01248/laws.FnExactMarkDistance", spec := "fnExactMarkDistance", apart := false }
def FnExactMarkDistanceSaid : Prop := fnExactMarkDistanceRow.holds Try.pinned (OpenSpec.ofChange fnExactMarkDistanceSpec)

/-- ITS FALSE NEIGHBOUR: 'it returns false'. Refute it at one input. -/
def fnExactMarkDistanceWrong : ChangeSpec := { name := "fnExactMarkDistance", fn := fun _ => fun
  | [d1, d2] => { results := [.lit (.bool false)], args := [d1, d2] }
  | _ => none }
def FnExactMarkDistanceWrongFalsely : Prop := fnExactMarkDistanceRow.holds Try.pinned (OpenSpec.ofChange fnExactMarkDistanceWrong)

/-- 'laws.FnExactNearestLetters': WHATEVER THE INPUT: true; the input reads as it did. -/
def fnExactNearestLettersSpec : ChangeSpec := { name := "fnExactNearestLetters", fn := fun _ => fun
  | [d1, d2] => { results := [.lit (.bool true)], args := [d1, d2] }
  | _ => none }
def fnExactNearestLettersRow : OpenClaim := { program := "ytgdiffdpjpkleaa", sum := "4bd6a015512cbd00f90f361dbe36257d911431740e9c2d46a2d8deb5f80f5fec", func := "loop.example/g01248/laws.FnExactNearestLetters", spec := "fnExactNearestLetters", apart := false }
def FnExactNearestLettersSaid : Prop := fnExactNearestLettersRow.holds Try.pinned (OpenSpec.ofChange fnExactNearestLettersSpec)

/-- ITS FALSE NEIGHBOUR: 'it returns false'. Refute it at one input. -/
def fnExactNearestLettersWrong : ChangeSpec := { name := "fnExactNearestLetters", fn := fun _ => fun
  | [d1, d2] => { results := [.lit (.bool false)], args := [d1, d2] }
  | _ => none }
def FnExactNearestLettersWrongFalsely : Prop := fnExactNearestLettersRow.holds Try.pinned (OpenSpec.ofChange fnExactNearestLettersWrong)

/-- 'laws.FnExactLettersBy': WHATEVER THE INPUT: true; the input reads as it did. -/
def fnExactLettersBySpec : ChangeSpec := { name := "fnExactLettersBy", fn := fun _ => fun
  | [d1, d2, d3] => { results := [.lit (.bool true)], args := [d1, d2, d3] }
  | _ => none }
def fnExactLettersByRow : OpenClaim := { program := "ytgdiffdpjpkleaa", sum := "4bd6a015512cbd00f90f361dbe36257d911431740e9c2d46a2d8deb5f80f5fec", func := "loop.example/g01248/laws.FnExactLettersBy", spec := "fnExactLettersBy", apart := false }
def FnExactLettersBySaid : Prop := fnExactLettersByRow.holds Try.pinned (OpenSpec.ofChange fnExactLettersBySpec)

/-- ITS FALSE NEIGHBOUR: 'it returns false'. Refute it at one input. -/
def fnExactLettersByWrong : ChangeSpec := { name := "fnExactLettersBy", fn := fun _ => fun
  | [d1, d2, d3] => { results := [.lit (.bool false)], args := [d1, d2, d3] }
  | _ => none }
def FnExactLettersByWrongFalsely : Prop := fnExactLettersByRow.holds Try.pinned (OpenSpec.ofChange fnExactLettersByWrong)

/-- 'laws.FnExactLeastDistance': WHATEVER THE INPUT: true; the input reads as it did. -/
def fnExactLeastDistanceSpec : ChangeSpec := { name := "fnExactLeastDistance", fn := fun _ => fun
  | [d] => { results := [.lit (.bool true)], args := [d] }
  | _ => none }
def fnExactLeastDistanceRow : OpenClaim := { program := "ytgdiffdpjpkleaa", sum := "4bd6a015512cbd00f90f361dbe36257d911431740e9c2d46a2d8deb5f80f5fec", func := "loop.example/g01248/laws.FnExactLeastDistance", spec := "fnExactLeastDistance", apart := false }
def FnExactLeastDistanceSaid : Prop := fnExactLeastDistanceRow.holds Try.pinned (OpenSpec.ofChange fnExactLeastDistanceSpec)

/-- ITS FALSE NEIGHBOUR: 'it returns false'. Refute it at one input. -/
def fnExactLeastDistanceWrong : ChangeSpec := { name := "fnExactLeastDistance", fn := fun _ => fun
  | [d] => { results := [.lit (.bool false)], args := [d] }
  | _ => none }
def FnExactLeastDistanceWrongFalsely : Prop := fnExactLeastDistanceRow.holds Try.pinned (OpenSpec.ofChange fnExactLeastDistanceWrong)

/-- 'laws.FnExactClosestPairs': WHATEVER THE INPUT: true; the input reads as it did. -/
def fnExactClosestPairsSpec : ChangeSpec := { name := "fnExactClosestPairs", fn := fun _ => fun
  | [d] => { results := [.lit (.bool true)], args := [d] }
  | _ => none }
def fnExactClosestPairsRow : OpenClaim := { program := "ytgdiffdpjpkleaa", sum := "4bd6a015512cbd00f90f361dbe36257d911431740e9c2d46a2d8deb5f80f5fec", func := "loop.example/g01248/laws.FnExactClosestPairs", spec := "fnExactClosestPairs", apart := false }
def FnExactClosestPairsSaid : Prop := fnExactClosestPairsRow.holds Try.pinned (OpenSpec.ofChange fnExactClosestPairsSpec)

/-- ITS FALSE NEIGHBOUR: 'it returns false'. Refute it at one input. -/
def fnExactClosestPairsWrong : ChangeSpec := { name := "fnExactClosestPairs", fn := fun _ => fun
  | [d] => { results := [.lit (.bool false)], args := [d] }
  | _ => none }
def FnExactClosestPairsWrongFalsely : Prop := fnExactClosestPairsRow.holds Try.pinned (OpenSpec.ofChange fnExactClosestPairsWrong)

/-- 'laws.FnExactIsSafe': WHATEVER THE INPUT: true; the input reads as it did. -/
def fnExactIsSafeSpec : ChangeSpec := { name := "fnExactIsSafe", fn := fun _ => fun
  | [d] => { results := [.lit (.bool true)], args := [d] }
  | _ => none }
def fnExactIsSafeRow : OpenClaim := { program := "ytgdiffdpjpkleaa", sum := "4bd6a015512cbd00f90f361dbe36257d911431740e9c2d46a2d8deb5f80f5fec", func := "loop.example/g01248/laws.FnExactIsSafe", spec := "fnExactIsSafe", apart := false }
def FnExactIsSafeSaid : Prop := fnExactIsSafeRow.holds Try.pinned (OpenSpec.ofChange fnExactIsSafeSpec)

/-- ITS FALSE NEIGHBOUR: 'it returns false'. Refute it at one input. -/
def fnExactIsSafeWrong : ChangeSpec := { name := "fnExactIsSafe", fn := fun _ => fun
  | [d] => { results := [.lit (.bool false)], args := [d] }
  | _ => none }
def FnExactIsSafeWrongFalsely : Prop := fnExactIsSafeRow.holds Try.pinned (OpenSpec.ofChange fnExactIsSafeWrong)

/-- 'laws.FnExactCanRepair': WHATEVER THE INPUT: true; the input reads as it did. -/
def fnExactCanRepairSpec : ChangeSpec := { name := "fnExactCanRepair", fn := fun _ => fun
  | [d] => { results := [.lit (.bool true)], args := [d] }
  | _ => none }
def fnExactCanRepairRow : OpenClaim := { program := "ytgdiffdpjpkleaa", sum := "4bd6a015512cbd00f90f361dbe36257d911431740e9c2d46a2d8deb5f80f5fec", func := "loop.example/g01248/laws.FnExactCanRepair", spec := "fnExactCanRepair", apart := false }
def FnExactCanRepairSaid : Prop := fnExactCanRepairRow.holds Try.pinned (OpenSpec.ofChange fnExactCanRepairSpec)

/-- ITS FALSE NEIGHBOUR: 'it returns false'. Refute it at one input. -/
def fnExactCanRepairWrong : ChangeSpec := { name := "fnExactCanRepair", fn := fun _ => fun
  | [d] => { results := [.lit (.bool false)], args := [d] }
  | _ => none }
def FnExactCanRepairWrongFalsely : Prop := fnExactCanRepairRow.holds Try.pinned (OpenSpec.ofChange fnExactCanRepairWrong)

/-- 'laws.FnExactReadWithMistakes': WHATEVER THE INPUT: true; the input reads as it did. -/
def fnExactReadWithMistakesSpec : ChangeSpec := { name := "fnExactReadWithMistakes", fn := fun _ => fun
  | [d1, d2] => { results := [.lit (.bool true)], args := [d1, d2] }
  | _ => none }
def fnExactReadWithMistakesRow : OpenClaim := { program := "ytgdiffdpjpkleaa", sum := "4bd6a015512cbd00f90f361dbe36257d911431740e9c2d46a2d8deb5f80f5fec", func := "loop.example/g01248/laws.FnExactReadWithMistakes", spec := "fnExactReadWithMistakes", apart := false }
def FnExactReadWithMistakesSaid : Prop := fnExactReadWithMistakesRow.holds Try.pinned (OpenSpec.ofChange fnExactReadWithMistakesSpec)

/-- ITS FALSE NEIGHBOUR: 'it returns false'. Refute it at one input. -/
def fnExactReadWithMistakesWrong : ChangeSpec := { name := "fnExactReadWithMistakes", fn := fun _ => fun
  | [d1, d2] => { results := [.lit (.bool false)], args := [d1, d2] }
  | _ => none }
def FnExactReadWithMistakesWrongFalsely : Prop := fnExactReadWithMistakesRow.holds Try.pinned (OpenSpec.ofChange fnExactReadWithMistakesWrong)

/-- 'laws.FnExactJoinedLetters': WHATEVER THE INPUT: true; the input reads as it did. -/
def fnExactJoinedLettersSpec : ChangeSpec := { name := "fnExactJoinedLetters", fn := fun _ => fun
  | [d] => { results := [.lit (.bool true)], args := [d] }
  | _ => none }
def fnExactJoinedLettersRow : OpenClaim := { program := "ytgdiffdpjpkleaa", sum := "4bd6a015512cbd00f90f361dbe36257d911431740e9c2d46a2d8deb5f80f5fec", func := "loop.example/g01248/laws.FnExactJoinedLetters", spec := "fnExactJoinedLetters", apart := false }
def FnExactJoinedLettersSaid : Prop := fnExactJoinedLettersRow.holds Try.pinned (OpenSpec.ofChange fnExactJoinedLettersSpec)

/-- ITS FALSE NEIGHBOUR: 'it returns false'. Refute it at one input. -/
def fnExactJoinedLettersWrong : ChangeSpec := { name := "fnExactJoinedLetters", fn := fun _ => fun
  | [d] => { results := [.lit (.bool false)], args := [d] }
  | _ => none }
def FnExactJoinedLettersWrongFalsely : Prop := fnExactJoinedLettersRow.holds Try.pinned (OpenSpec.ofChange fnExactJoinedLettersWrong)

/-- 'laws.FnExactSplitLetters': WHATEVER THE INPUT: true; the input reads as it did. -/
def fnExactSplitLettersSpec : ChangeSpec := { name := "fnExactSplitLetters", fn := fun _ => fun
  | [d1, d2] => { results := [.lit (.bool true)], args := [d1, d2] }
  | _ => none }
def fnExactSplitLettersRow : OpenClaim := { program := "ytgdiffdpjpkleaa", sum := "4bd6a015512cbd00f90f361dbe36257d911431740e9c2d46a2d8deb5f80f5fec", func := "loop.example/g01248/laws.FnExactSplitLetters", spec := "fnExactSplitLetters", apart := false }
def FnExactSplitLettersSaid : Prop := fnExactSplitLettersRow.holds Try.pinned (OpenSpec.ofChange fnExactSplitLettersSpec)

/-- ITS FALSE NEIGHBOUR: 'it returns false'. Refute it at one input. -/
def fnExactSplitLettersWrong : ChangeSpec := { name := "fnExactSplitLetters", fn := fun _ => fun
  | [d1, d2] => { results := [.lit (.bool false)], args := [d1, d2] }
  | _ => none }
def FnExactSplitLettersWrongFalsely : Prop := fnExactSplitLettersRow.holds Try.pinned (OpenSpec.ofChange fnExactSplitLettersWrong)

/-- 'laws.FnExactEvenTable': WHATEVER THE INPUT: true; the input reads as it did. -/
def fnExactEvenTableSpec : ChangeSpec := { name := "fnExactEvenTable", fn := fun _ => fun
  | [d] => { results := [.lit (.bool true)], args := [d] }
  | _ => none }
def fnExactEvenTableRow : OpenClaim := { program := "ytgdiffdpjpkleaa", sum := "4bd6a015512cbd00f90f361dbe36257d911431740e9c2d46a2d8deb5f80f5fec", func := "loop.example/g01248/laws.FnExactEvenTable", spec := "fnExactEvenTable", inPlace := ["internal/bytealg.CountString", "internal/bytealg.IndexByteString", "internal/bytealg.IndexString"], named := ["internal/bytealg.MaxLen"], apart := false }
def FnExactEvenTableSaid : Prop := fnExactEvenTableRow.holds Try.pinned (OpenSpec.ofChange fnExactEvenTableSpec)

/-- ITS FALSE NEIGHBOUR: 'it returns false'. Refute it at one input. -/
def fnExactEvenTableWrong : ChangeSpec := { name := "fnExactEvenTable", fn := fun _ => fun
  | [d] => { results := [.lit (.bool false)], args := [d] }
  | _ => none }
def FnExactEvenTableWrongFalsely : Prop := fnExactEvenTableRow.holds Try.pinned (OpenSpec.ofChange fnExactEvenTableWrong)

/-- 'laws.FnExactSafeSubset': WHATEVER THE INPUT: true; the input reads as it did. -/
def fnExactSafeSubsetSpec : ChangeSpec := { name := "fnExactSafeSubset", fn := fun _ => fun
  | [d] => { results := [.lit (.bool true)], args := [d] }
  | _ => none }
def fnExactSafeSubsetRow : OpenClaim := { program := "ytgdiffdpjpkleaa", sum := "4bd6a015512cbd00f90f361dbe36257d911431740e9c2d46a2d8deb5f80f5fec", func := "loop.example/g01248/laws.FnExactSafeSubset", spec := "fnExactSafeSubset", unfollowed := true, recurses := true, apart := false }
def FnExactSafeSubsetSaid : Prop := fnExactSafeSubsetRow.holds Try.pinned (OpenSpec.ofChange fnExactSafeSubsetSpec)

/-- ITS FALSE NEIGHBOUR: 'it returns false'. Refute it at one input. -/
def fnExactSafeSubsetWrong : ChangeSpec := { name := "fnExactSafeSubset", fn := fun _ => fun
  | [d] => { results := [.lit (.bool false)], args := [d] }
  | _ => none }
def FnExactSafeSubsetWrongFalsely : Prop := fnExactSafeSubsetRow.holds Try.pinned (OpenSpec.ofChange fnExactSafeSubsetWrong)

/-- 'laws.FnExactMistakeChain': WHATEVER THE INPUT: true; the input reads as it did. -/
def fnExactMistakeChainSpec : ChangeSpec := { name := "fnExactMistakeChain", fn := fun _ => fun
  | [d1, d2, d3] => { results := [.lit (.bool true)], args := [d1, d2, d3] }
  | _ => none }
def fnExactMistakeChainRow : OpenClaim := { program := "ytgdiffdpjpkleaa", sum := "4bd6a015512cbd00f90f361dbe36257d911431740e9c2d46a2d8deb5f80f5fec", func := "loop.example/g01248/laws.FnExactMistakeChain", spec := "fnExactMistakeChain", unfollowed := true, recurses := true, apart := false }
def FnExactMistakeChainSaid : Prop := fnExactMistakeChainRow.holds Try.pinned (OpenSpec.ofChange fnExactMistakeChainSpec)

/-- ITS FALSE NEIGHBOUR: 'it returns false'. Refute it at one input. -/
def fnExactMistakeChainWrong : ChangeSpec := { name := "fnExactMistakeChain", fn := fun _ => fun
  | [d1, d2, d3] => { results := [.lit (.bool false)], args := [d1, d2, d3] }
  | _ => none }
def FnExactMistakeChainWrongFalsely : Prop := fnExactMistakeChainRow.holds Try.pinned (OpenSpec.ofChange fnExactMistakeChainWrong)

/-- 'laws.FnMistakes': WHATEVER THE INPUT: true; the input reads as it did. -/
def fnMistakesSpec : ChangeSpec := { name := "fnMistakes", fn := fun _ => fun
  | [d] => { results := [.lit (.bool true)], args := [d] }
  | _ => none }
def fnMistakesRow : OpenClaim := { program := "ytgdiffdpjpkleaa", sum := "4bd6a015512cbd00f90f361dbe36257d911431740e9c2d46a2d8deb5f80f5fec", func := "loop.example/g01248/laws.FnMistakes", spec := "fnMistakes", inPlace := ["internal/bytealg.CountString", "internal/bytealg.IndexByteString", "internal/bytealg.IndexString"], named := ["internal/bytealg.MaxLen"], apart := false }
def FnMistakesSaid : Prop := fnMistakesRow.holds Try.pinned (OpenSpec.ofChange fnMistakesSpec)

/-- ITS FALSE NEIGHBOUR: 'it returns false'. Refute it at one input. -/
def fnMistakesWrong : ChangeSpec := { name := "fnMistakes", fn := fun _ => fun
  | [d] => { results := [.lit (.bool false)], args := [d] }
  | _ => none }
def FnMistakesWrongFalsely : Prop := fnMistakesRow.holds Try.pinned (OpenSpec.ofChange fnMistakesWrong)

/-- 'laws.FnMistakeWays': WHATEVER THE INPUT: true; the input reads as it did. -/
def fnMistakeWaysSpec : ChangeSpec := { name := "fnMistakeWays", fn := fun _ => fun
  | [d] => { results := [.lit (.bool true)], args := [d] }
  | _ => none }
def fnMistakeWaysRow : OpenClaim := { program := "ytgdiffdpjpkleaa", sum := "4bd6a015512cbd00f90f361dbe36257d911431740e9c2d46a2d8deb5f80f5fec", func := "loop.example/g01248/laws.FnMistakeWays", spec := "fnMistakeWays", unfollowed := true, recurses := true, apart := false }
def FnMistakeWaysSaid : Prop := fnMistakeWaysRow.holds Try.pinned (OpenSpec.ofChange fnMistakeWaysSpec)

/-- ITS FALSE NEIGHBOUR: 'it returns false'. Refute it at one input. -/
def fnMistakeWaysWrong : ChangeSpec := { name := "fnMistakeWays", fn := fun _ => fun
  | [d] => { results := [.lit (.bool false)], args := [d] }
  | _ => none }
def FnMistakeWaysWrongFalsely : Prop := fnMistakeWaysRow.holds Try.pinned (OpenSpec.ofChange fnMistakeWaysWrong)

/- THE SECOND FORM. 'bulk': how many values and letters a reading holds, each counted each time it is reached (what is shared counts as often as it is met; a slice's spare places count too). A statement '..UptoSaid' is the law's where the arguments, and the package variables that the reading takes, are together of bulk at most 1048576: NARROWER than '..Said'. Prove '..Said' where nothing that the law and all that it calls make is longer than what came in: it says more and counts as full. Else prove '..UptoSaid'. A law counts once. -/
mutual
def uptoBulk {H : Type} : DataW H → Nat
  | .lit (.string bytes) => bytes.length + 1
  | .lit _ => 1
  | .nil => 1
  | .ptr d => uptoBulk d + 1
  | .slice elems spare => uptoBulkAll elems + uptoBulkAll spare + 1
  | .agg parts => uptoBulkAll parts + 1
  | .iface _ d => uptoBulk d + 1
  | .map entries => uptoBulkEntries entries + 1
  | .held _ => 1
def uptoBulkAll {H : Type} : List (DataW H) → Nat
  | [] => 0
  | d :: r => uptoBulk d + uptoBulkAll r
def uptoBulkEntries {H : Type} : List (Lit × DataW H) → Nat
  | [] => 0
  | x :: r => uptoBulkEntry x + uptoBulkEntries r
def uptoBulkEntry {H : Type} : Lit × DataW H → Nat
  | (.string bytes, d) => bytes.length + uptoBulk d + 1
  | (_, d) => uptoBulk d + 1
 end
def uptoSmall : (H : Type) → List (DataW H) → Bool := fun _ ds => decide (uptoBulkAll ds ≤ 1048576)
def OpenSpec.upto (s : _root_.Go.ChangeSpec) : _root_.Go.OpenSpec := { _root_.Go.OpenSpec.ofChange s with cond := some uptoSmall }

/-- 'laws.FnExactMarkDistance', WHERE WHAT IT READS IS OF BULK AT MOST 1048576: true; the input reads as it did. -/
def fnExactMarkDistanceUptoRow : OpenClaim := { program := "ytgdiffdpjpkleaa", sum := "4bd6a015512cbd00f90f361dbe36257d911431740e9c2d46a2d8deb5f80f5fec", func := "loop.example/g01248/laws.FnExactMarkDistance", spec := "fnExactMarkDistance", apart := false, narrowed := true }
def FnExactMarkDistanceUptoSaid : Prop := fnExactMarkDistanceUptoRow.holds Try.pinned (OpenSpec.upto fnExactMarkDistanceSpec)

/-- 'laws.FnExactNearestLetters', WHERE WHAT IT READS IS OF BULK AT MOST 1048576: true; the input reads as it did. -/
def fnExactNearestLettersUptoRow : OpenClaim := { program := "ytgdiffdpjpkleaa", sum := "4bd6a015512cbd00f90f361dbe36257d911431740e9c2d46a2d8deb5f80f5fec", func := "loop.example/g01248/laws.FnExactNearestLetters", spec := "fnExactNearestLetters", apart := false, narrowed := true }
def FnExactNearestLettersUptoSaid : Prop := fnExactNearestLettersUptoRow.holds Try.pinned (OpenSpec.upto fnExactNearestLettersSpec)

/-- 'laws.FnExactLettersBy', WHERE WHAT IT READS IS OF BULK AT MOST 1048576: true; the input reads as it did. -/
def fnExactLettersByUptoRow : OpenClaim := { program := "ytgdiffdpjpkleaa", sum := "4bd6a015512cbd00f90f361dbe36257d911431740e9c2d46a2d8deb5f80f5fec", func := "loop.example/g01248/laws.FnExactLettersBy", spec := "fnExactLettersBy", apart := false, narrowed := true }
def FnExactLettersByUptoSaid : Prop := fnExactLettersByUptoRow.holds Try.pinned (OpenSpec.upto fnExactLettersBySpec)

/-- 'laws.FnExactLeastDistance', WHERE WHAT IT READS IS OF BULK AT MOST 1048576: true; the input reads as it did. -/
def fnExactLeastDistanceUptoRow : OpenClaim := { program := "ytgdiffdpjpkleaa", sum := "4bd6a015512cbd00f90f361dbe36257d911431740e9c2d46a2d8deb5f80f5fec", func := "loop.example/g01248/laws.FnExactLeastDistance", spec := "fnExactLeastDistance", apart := false, narrowed := true }
def FnExactLeastDistanceUptoSaid : Prop := fnExactLeastDistanceUptoRow.holds Try.pinned (OpenSpec.upto fnExactLeastDistanceSpec)

/-- 'laws.FnExactClosestPairs', WHERE WHAT IT READS IS OF BULK AT MOST 1048576: true; the input reads as it did. -/
def fnExactClosestPairsUptoRow : OpenClaim := { program := "ytgdiffdpjpkleaa", sum := "4bd6a015512cbd00f90f361dbe36257d911431740e9c2d46a2d8deb5f80f5fec", func := "loop.example/g01248/laws.FnExactClosestPairs", spec := "fnExactClosestPairs", apart := false, narrowed := true }
def FnExactClosestPairsUptoSaid : Prop := fnExactClosestPairsUptoRow.holds Try.pinned (OpenSpec.upto fnExactClosestPairsSpec)

/-- 'laws.FnExactIsSafe', WHERE WHAT IT READS IS OF BULK AT MOST 1048576: true; the input reads as it did. -/
def fnExactIsSafeUptoRow : OpenClaim := { program := "ytgdiffdpjpkleaa", sum := "4bd6a015512cbd00f90f361dbe36257d911431740e9c2d46a2d8deb5f80f5fec", func := "loop.example/g01248/laws.FnExactIsSafe", spec := "fnExactIsSafe", apart := false, narrowed := true }
def FnExactIsSafeUptoSaid : Prop := fnExactIsSafeUptoRow.holds Try.pinned (OpenSpec.upto fnExactIsSafeSpec)

/-- 'laws.FnExactCanRepair', WHERE WHAT IT READS IS OF BULK AT MOST 1048576: true; the input reads as it did. -/
def fnExactCanRepairUptoRow : OpenClaim := { program := "ytgdiffdpjpkleaa", sum := "4bd6a015512cbd00f90f361dbe36257d911431740e9c2d46a2d8deb5f80f5fec", func := "loop.example/g01248/laws.FnExactCanRepair", spec := "fnExactCanRepair", apart := false, narrowed := true }
def FnExactCanRepairUptoSaid : Prop := fnExactCanRepairUptoRow.holds Try.pinned (OpenSpec.upto fnExactCanRepairSpec)

/-- 'laws.FnExactReadWithMistakes', WHERE WHAT IT READS IS OF BULK AT MOST 1048576: true; the input reads as it did. -/
def fnExactReadWithMistakesUptoRow : OpenClaim := { program := "ytgdiffdpjpkleaa", sum := "4bd6a015512cbd00f90f361dbe36257d911431740e9c2d46a2d8deb5f80f5fec", func := "loop.example/g01248/laws.FnExactReadWithMistakes", spec := "fnExactReadWithMistakes", apart := false, narrowed := true }
def FnExactReadWithMistakesUptoSaid : Prop := fnExactReadWithMistakesUptoRow.holds Try.pinned (OpenSpec.upto fnExactReadWithMistakesSpec)

/-- 'laws.FnExactJoinedLetters', WHERE WHAT IT READS IS OF BULK AT MOST 1048576: true; the input reads as it did. -/
def fnExactJoinedLettersUptoRow : OpenClaim := { program := "ytgdiffdpjpkleaa", sum := "4bd6a015512cbd00f90f361dbe36257d911431740e9c2d46a2d8deb5f80f5fec", func := "loop.example/g01248/laws.FnExactJoinedLetters", spec := "fnExactJoinedLetters", apart := false, narrowed := true }
def FnExactJoinedLettersUptoSaid : Prop := fnExactJoinedLettersUptoRow.holds Try.pinned (OpenSpec.upto fnExactJoinedLettersSpec)

/-- 'laws.FnExactSplitLetters', WHERE WHAT IT READS IS OF BULK AT MOST 1048576: true; the input reads as it did. -/
def fnExactSplitLettersUptoRow : OpenClaim := { program := "ytgdiffdpjpkleaa", sum := "4bd6a015512cbd00f90f361dbe36257d911431740e9c2d46a2d8deb5f80f5fec", func := "loop.example/g01248/laws.FnExactSplitLetters", spec := "fnExactSplitLetters", apart := false, narrowed := true }
def FnExactSplitLettersUptoSaid : Prop := fnExactSplitLettersUptoRow.holds Try.pinned (OpenSpec.upto fnExactSplitLettersSpec)

/-- 'laws.FnExactEvenTable', WHERE WHAT IT READS IS OF BULK AT MOST 1048576: true; the input reads as it did. -/
def fnExactEvenTableUptoRow : OpenClaim := { program := "ytgdiffdpjpkleaa", sum := "4bd6a015512cbd00f90f361dbe36257d911431740e9c2d46a2d8deb5f80f5fec", func := "loop.example/g01248/laws.FnExactEvenTable", spec := "fnExactEvenTable", inPlace := ["internal/bytealg.CountString", "internal/bytealg.IndexByteString", "internal/bytealg.IndexString"], named := ["internal/bytealg.MaxLen"], apart := false, narrowed := true }
def FnExactEvenTableUptoSaid : Prop := fnExactEvenTableUptoRow.holds Try.pinned (OpenSpec.upto fnExactEvenTableSpec)

/-- 'laws.FnExactSafeSubset', WHERE WHAT IT READS IS OF BULK AT MOST 1048576: true; the input reads as it did. -/
def fnExactSafeSubsetUptoRow : OpenClaim := { program := "ytgdiffdpjpkleaa", sum := "4bd6a015512cbd00f90f361dbe36257d911431740e9c2d46a2d8deb5f80f5fec", func := "loop.example/g01248/laws.FnExactSafeSubset", spec := "fnExactSafeSubset", unfollowed := true, recurses := true, apart := false, narrowed := true }
def FnExactSafeSubsetUptoSaid : Prop := fnExactSafeSubsetUptoRow.holds Try.pinned (OpenSpec.upto fnExactSafeSubsetSpec)

/-- 'laws.FnExactMistakeChain', WHERE WHAT IT READS IS OF BULK AT MOST 1048576: true; the input reads as it did. -/
def fnExactMistakeChainUptoRow : OpenClaim := { program := "ytgdiffdpjpkleaa", sum := "4bd6a015512cbd00f90f361dbe36257d911431740e9c2d46a2d8deb5f80f5fec", func := "loop.example/g01248/laws.FnExactMistakeChain", spec := "fnExactMistakeChain", unfollowed := true, recurses := true, apart := false, narrowed := true }
def FnExactMistakeChainUptoSaid : Prop := fnExactMistakeChainUptoRow.holds Try.pinned (OpenSpec.upto fnExactMistakeChainSpec)

/-- 'laws.FnMistakes', WHERE WHAT IT READS IS OF BULK AT MOST 1048576: true; the input reads as it did. -/
def fnMistakesUptoRow : OpenClaim := { program := "ytgdiffdpjpkleaa", sum := "4bd6a015512cbd00f90f361dbe36257d911431740e9c2d46a2d8deb5f80f5fec", func := "loop.example/g01248/laws.FnMistakes", spec := "fnMistakes", inPlace := ["internal/bytealg.CountString", "internal/bytealg.IndexByteString", "internal/bytealg.IndexString"], named := ["internal/bytealg.MaxLen"], apart := false, narrowed := true }
def FnMistakesUptoSaid : Prop := fnMistakesUptoRow.holds Try.pinned (OpenSpec.upto fnMistakesSpec)

/-- 'laws.FnMistakeWays', WHERE WHAT IT READS IS OF BULK AT MOST 1048576: true; the input reads as it did. -/
def fnMistakeWaysUptoRow : OpenClaim := { program := "ytgdiffdpjpkleaa", sum := "4bd6a015512cbd00f90f361dbe36257d911431740e9c2d46a2d8deb5f80f5fec", func := "loop.example/g01248/laws.FnMistakeWays", spec := "fnMistakeWays", unfollowed := true, recurses := true, apart := false, narrowed := true }
def FnMistakeWaysUptoSaid : Prop := fnMistakeWaysUptoRow.holds Try.pinned (OpenSpec.upto fnMistakeWaysSpec)

end Rows
end Go.Proofs.Ytgdiffdpjpkleaa
