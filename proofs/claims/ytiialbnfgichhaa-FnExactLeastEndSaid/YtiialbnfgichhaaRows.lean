/-
  No cell of these rows narrows 'for every input' (looked for: loops, veiled, ifaces, maps, wideKeys, modest, calm, conditions, laid).
  DERIVED. THE GIVEN ROWS OF THIS SEAT. 13 by the template 'for every input the law returns true; each argument reads behind the call as it read before'; 0 by the template 'total and deterministic' (their statements: YtiialbnfgichhaaTotals.lean).
  GIVEN WITH THE SEED: the statements are not yours to turn. If you find one false, say at which input.
  Laid BY PROGRAM, IN A SANDBOX (cutbox-rows.mjs): the forced cells as the released guide's own fill.sh prints them over the translation de021f0a315b0b09… (all of the seat's roots in one cut). By AI agents, Wed Nov 11 2026. No macro, syntax, notation, axiom, sorry.
-/
import Derived.Test.YtiialbnfgichhaaChecked
import GoSem.Claim
import GoSem.ClaimJoined
import GoSem.ClaimMapViews
import Derived.JoinedTies
import Derived.KernelRfl
namespace Go.Proofs.Ytiialbnfgichhaa
/- THE CELL 'sum', in the pinned program and in every row, IS THE sha256 OF THE DUMP (.gsa) THAT YtiialbnfgichhaaProg.lean LOADS. Nothing in Lean hashes anything: it is a label: what it is worth is what the hold of that sum in a sandbox is worth. -/
noncomputable def Try.pinned : Pinned := { name := "ytiialbnfgichhaa", sum := "de021f0a315b0b09f6ff290457e3afa36c8b94a171b21dccdc35a003c1b75df6", checked := Try.checked }
namespace Rows
def none {H : Type} : Left H := { results := [], args := [] }

/-- 'laws.FnExactIsJob': WHATEVER THE INPUT: true; the input reads as it did. -/
def fnExactIsJobSpec : ChangeSpec := { name := "fnExactIsJob", fn := fun _ => fun
  | [d1, d2] => { results := [.lit (.bool true)], args := [d1, d2] }
  | _ => none }
def fnExactIsJobRow : OpenClaim := { program := "ytiialbnfgichhaa", sum := "de021f0a315b0b09f6ff290457e3afa36c8b94a171b21dccdc35a003c1b75df6", func := "loop.example/g01248/laws.FnExactIsJob", spec := "fnExactIsJob", apart := false }
def FnExactIsJobSaid : Prop := fnExactIsJobRow.holds Try.pinned (OpenSpec.ofChange fnExactIsJobSpec)

/-- ITS FALSE NEIGHBOUR: 'it returns false'. Refute it at one input. -/
def fnExactIsJobWrong : ChangeSpec := { name := "fnExactIsJob", fn := fun _ => fun
  | [d1, d2] => { results := [.lit (.bool false)], args := [d1, d2] }
  | _ => none }
def FnExactIsJobWrongFalsely : Prop := fnExactIsJobRow.holds Try.pinned (OpenSpec.ofChange fnExactIsJobWrong)

/-- 'laws.FnExactStepsOf': WHATEVER THE INPUT: true; the input reads as it did. -/
def fnExactStepsOfSpec : ChangeSpec := { name := "fnExactStepsOf", fn := fun _ => fun
  | [d1, d2] => { results := [.lit (.bool true)], args := [d1, d2] }
  | _ => none }
def fnExactStepsOfRow : OpenClaim := { program := "ytiialbnfgichhaa", sum := "de021f0a315b0b09f6ff290457e3afa36c8b94a171b21dccdc35a003c1b75df6", func := "loop.example/g01248/laws.FnExactStepsOf", spec := "fnExactStepsOf", apart := false }
def FnExactStepsOfSaid : Prop := fnExactStepsOfRow.holds Try.pinned (OpenSpec.ofChange fnExactStepsOfSpec)

/-- ITS FALSE NEIGHBOUR: 'it returns false'. Refute it at one input. -/
def fnExactStepsOfWrong : ChangeSpec := { name := "fnExactStepsOf", fn := fun _ => fun
  | [d1, d2] => { results := [.lit (.bool false)], args := [d1, d2] }
  | _ => none }
def FnExactStepsOfWrongFalsely : Prop := fnExactStepsOfRow.holds Try.pinned (OpenSpec.ofChange fnExactStepsOfWrong)

/-- 'laws.FnExactPlanInOrder': WHATEVER THE INPUT: true; the input reads as it did. -/
def fnExactPlanInOrderSpec : ChangeSpec := { name := "fnExactPlanInOrder", fn := fun _ => fun
  | [d1, d2, d3] => { results := [.lit (.bool true)], args := [d1, d2, d3] }
  | _ => none }
def fnExactPlanInOrderRow : OpenClaim := { program := "ytiialbnfgichhaa", sum := "de021f0a315b0b09f6ff290457e3afa36c8b94a171b21dccdc35a003c1b75df6", func := "loop.example/g01248/laws.FnExactPlanInOrder", spec := "fnExactPlanInOrder", unfollowed := true, recurses := true, apart := false }
def FnExactPlanInOrderSaid : Prop := fnExactPlanInOrderRow.holds Try.pinned (OpenSpec.ofChange fnExactPlanInOrderSpec)

/-- ITS FALSE NEIGHBOUR: 'it returns false'. Refute it at one input. -/
def fnExactPlanInOrderWrong : ChangeSpec := { name := "fnExactPlanInOrder", fn := fun _ => fun
  | [d1, d2, d3] => { results := [.lit (.bool false)], args := [d1, d2, d3] }
  | _ => none }
def FnExactPlanInOrderWrongFalsely : Prop := fnExactPlanInOrderRow.holds Try.pinned (OpenSpec.ofChange fnExactPlanInOrderWrong)

/-- 'laws.FnExactIsPlan': WHATEVER THE INPUT: true; the input reads as it did. -/
def fnExactIsPlanSpec : ChangeSpec := { name := "fnExactIsPlan", fn := fun _ => fun
  | [d1, d2, d3] => { results := [.lit (.bool true)], args := [d1, d2, d3] }
  | _ => none }
def fnExactIsPlanRow : OpenClaim := { program := "ytiialbnfgichhaa", sum := "de021f0a315b0b09f6ff290457e3afa36c8b94a171b21dccdc35a003c1b75df6", func := "loop.example/g01248/laws.FnExactIsPlan", spec := "fnExactIsPlan", unfollowed := true, recurses := true, apart := false }
def FnExactIsPlanSaid : Prop := fnExactIsPlanRow.holds Try.pinned (OpenSpec.ofChange fnExactIsPlanSpec)

/-- ITS FALSE NEIGHBOUR: 'it returns false'. Refute it at one input. -/
def fnExactIsPlanWrong : ChangeSpec := { name := "fnExactIsPlan", fn := fun _ => fun
  | [d1, d2, d3] => { results := [.lit (.bool false)], args := [d1, d2, d3] }
  | _ => none }
def FnExactIsPlanWrongFalsely : Prop := fnExactIsPlanRow.holds Try.pinned (OpenSpec.ofChange fnExactIsPlanWrong)

/-- 'laws.FnExactEndOf': WHATEVER THE INPUT: true; the input reads as it did. -/
def fnExactEndOfSpec : ChangeSpec := { name := "fnExactEndOf", fn := fun _ => fun
  | [d1, d2, d3] => { results := [.lit (.bool true)], args := [d1, d2, d3] }
  | _ => none }
def fnExactEndOfRow : OpenClaim := { program := "ytiialbnfgichhaa", sum := "de021f0a315b0b09f6ff290457e3afa36c8b94a171b21dccdc35a003c1b75df6", func := "loop.example/g01248/laws.FnExactEndOf", spec := "fnExactEndOf", unfollowed := true, recurses := true, apart := false }
def FnExactEndOfSaid : Prop := fnExactEndOfRow.holds Try.pinned (OpenSpec.ofChange fnExactEndOfSpec)

/-- ITS FALSE NEIGHBOUR: 'it returns false'. Refute it at one input. -/
def fnExactEndOfWrong : ChangeSpec := { name := "fnExactEndOf", fn := fun _ => fun
  | [d1, d2, d3] => { results := [.lit (.bool false)], args := [d1, d2, d3] }
  | _ => none }
def FnExactEndOfWrongFalsely : Prop := fnExactEndOfRow.holds Try.pinned (OpenSpec.ofChange fnExactEndOfWrong)

/-- 'laws.FnExactLoadsOf': WHATEVER THE INPUT: true; the input reads as it did. -/
def fnExactLoadsOfSpec : ChangeSpec := { name := "fnExactLoadsOf", fn := fun _ => fun
  | [d1, d2] => { results := [.lit (.bool true)], args := [d1, d2] }
  | _ => none }
def fnExactLoadsOfRow : OpenClaim := { program := "ytiialbnfgichhaa", sum := "de021f0a315b0b09f6ff290457e3afa36c8b94a171b21dccdc35a003c1b75df6", func := "loop.example/g01248/laws.FnExactLoadsOf", spec := "fnExactLoadsOf", apart := false }
def FnExactLoadsOfSaid : Prop := fnExactLoadsOfRow.holds Try.pinned (OpenSpec.ofChange fnExactLoadsOfSpec)

/-- ITS FALSE NEIGHBOUR: 'it returns false'. Refute it at one input. -/
def fnExactLoadsOfWrong : ChangeSpec := { name := "fnExactLoadsOf", fn := fun _ => fun
  | [d1, d2] => { results := [.lit (.bool false)], args := [d1, d2] }
  | _ => none }
def FnExactLoadsOfWrongFalsely : Prop := fnExactLoadsOfRow.holds Try.pinned (OpenSpec.ofChange fnExactLoadsOfWrong)

/-- 'laws.FnExactLeastEnd': WHATEVER THE INPUT: true; the input reads as it did. -/
def fnExactLeastEndSpec : ChangeSpec := { name := "fnExactLeastEnd", fn := fun _ => fun
  | [d1, d2] => { results := [.lit (.bool true)], args := [d1, d2] }
  | _ => none }
def fnExactLeastEndRow : OpenClaim := { program := "ytiialbnfgichhaa", sum := "de021f0a315b0b09f6ff290457e3afa36c8b94a171b21dccdc35a003c1b75df6", func := "loop.example/g01248/laws.FnExactLeastEnd", spec := "fnExactLeastEnd", apart := false }
def FnExactLeastEndSaid : Prop := fnExactLeastEndRow.holds Try.pinned (OpenSpec.ofChange fnExactLeastEndSpec)

/-- ITS FALSE NEIGHBOUR: 'it returns false'. Refute it at one input. -/
def fnExactLeastEndWrong : ChangeSpec := { name := "fnExactLeastEnd", fn := fun _ => fun
  | [d1, d2] => { results := [.lit (.bool false)], args := [d1, d2] }
  | _ => none }
def FnExactLeastEndWrongFalsely : Prop := fnExactLeastEndRow.holds Try.pinned (OpenSpec.ofChange fnExactLeastEndWrong)

/-- 'laws.FnExactBestOrder': WHATEVER THE INPUT: true; the input reads as it did. -/
def fnExactBestOrderSpec : ChangeSpec := { name := "fnExactBestOrder", fn := fun _ => fun
  | [d1, d2] => { results := [.lit (.bool true)], args := [d1, d2] }
  | _ => none }
def fnExactBestOrderRow : OpenClaim := { program := "ytiialbnfgichhaa", sum := "de021f0a315b0b09f6ff290457e3afa36c8b94a171b21dccdc35a003c1b75df6", func := "loop.example/g01248/laws.FnExactBestOrder", spec := "fnExactBestOrder", recurses := true, apart := false }
def FnExactBestOrderSaid : Prop := fnExactBestOrderRow.holds Try.pinned (OpenSpec.ofChange fnExactBestOrderSpec)

/-- ITS FALSE NEIGHBOUR: 'it returns false'. Refute it at one input. -/
def fnExactBestOrderWrong : ChangeSpec := { name := "fnExactBestOrder", fn := fun _ => fun
  | [d1, d2] => { results := [.lit (.bool false)], args := [d1, d2] }
  | _ => none }
def FnExactBestOrderWrongFalsely : Prop := fnExactBestOrderRow.holds Try.pinned (OpenSpec.ofChange fnExactBestOrderWrong)

/-- 'laws.FnExactWaitsOf': WHATEVER THE INPUT: true; the input reads as it did. -/
def fnExactWaitsOfSpec : ChangeSpec := { name := "fnExactWaitsOf", fn := fun _ => fun
  | [d1, d2, d3] => { results := [.lit (.bool true)], args := [d1, d2, d3] }
  | _ => none }
def fnExactWaitsOfRow : OpenClaim := { program := "ytiialbnfgichhaa", sum := "de021f0a315b0b09f6ff290457e3afa36c8b94a171b21dccdc35a003c1b75df6", func := "loop.example/g01248/laws.FnExactWaitsOf", spec := "fnExactWaitsOf", unfollowed := true, recurses := true, apart := false }
def FnExactWaitsOfSaid : Prop := fnExactWaitsOfRow.holds Try.pinned (OpenSpec.ofChange fnExactWaitsOfSpec)

/-- ITS FALSE NEIGHBOUR: 'it returns false'. Refute it at one input. -/
def fnExactWaitsOfWrong : ChangeSpec := { name := "fnExactWaitsOf", fn := fun _ => fun
  | [d1, d2, d3] => { results := [.lit (.bool false)], args := [d1, d2, d3] }
  | _ => none }
def FnExactWaitsOfWrongFalsely : Prop := fnExactWaitsOfRow.holds Try.pinned (OpenSpec.ofChange fnExactWaitsOfWrong)

/-- 'laws.FnExactStreamEnd': WHATEVER THE INPUT: true; the input reads as it did. -/
def fnExactStreamEndSpec : ChangeSpec := { name := "fnExactStreamEnd", fn := fun _ => fun
  | [d1, d2, d3] => { results := [.lit (.bool true)], args := [d1, d2, d3] }
  | _ => none }
def fnExactStreamEndRow : OpenClaim := { program := "ytiialbnfgichhaa", sum := "de021f0a315b0b09f6ff290457e3afa36c8b94a171b21dccdc35a003c1b75df6", func := "loop.example/g01248/laws.FnExactStreamEnd", spec := "fnExactStreamEnd", apart := false }
def FnExactStreamEndSaid : Prop := fnExactStreamEndRow.holds Try.pinned (OpenSpec.ofChange fnExactStreamEndSpec)

/-- ITS FALSE NEIGHBOUR: 'it returns false'. Refute it at one input. -/
def fnExactStreamEndWrong : ChangeSpec := { name := "fnExactStreamEnd", fn := fun _ => fun
  | [d1, d2, d3] => { results := [.lit (.bool false)], args := [d1, d2, d3] }
  | _ => none }
def FnExactStreamEndWrongFalsely : Prop := fnExactStreamEndRow.holds Try.pinned (OpenSpec.ofChange fnExactStreamEndWrong)

/-- 'laws.FnExactBusyAt': WHATEVER THE INPUT: true; the input reads as it did. -/
def fnExactBusyAtSpec : ChangeSpec := { name := "fnExactBusyAt", fn := fun _ => fun
  | [d1, d2, d3, d4] => { results := [.lit (.bool true)], args := [d1, d2, d3, d4] }
  | _ => none }
def fnExactBusyAtRow : OpenClaim := { program := "ytiialbnfgichhaa", sum := "de021f0a315b0b09f6ff290457e3afa36c8b94a171b21dccdc35a003c1b75df6", func := "loop.example/g01248/laws.FnExactBusyAt", spec := "fnExactBusyAt", unfollowed := true, recurses := true, apart := false }
def FnExactBusyAtSaid : Prop := fnExactBusyAtRow.holds Try.pinned (OpenSpec.ofChange fnExactBusyAtSpec)

/-- ITS FALSE NEIGHBOUR: 'it returns false'. Refute it at one input. -/
def fnExactBusyAtWrong : ChangeSpec := { name := "fnExactBusyAt", fn := fun _ => fun
  | [d1, d2, d3, d4] => { results := [.lit (.bool false)], args := [d1, d2, d3, d4] }
  | _ => none }
def FnExactBusyAtWrongFalsely : Prop := fnExactBusyAtRow.holds Try.pinned (OpenSpec.ofChange fnExactBusyAtWrong)

/-- 'laws.FnExactIsGrown': WHATEVER THE INPUT: true; the input reads as it did. -/
def fnExactIsGrownSpec : ChangeSpec := { name := "fnExactIsGrown", fn := fun _ => fun
  | [d] => { results := [.lit (.bool true)], args := [d] }
  | _ => none }
def fnExactIsGrownRow : OpenClaim := { program := "ytiialbnfgichhaa", sum := "de021f0a315b0b09f6ff290457e3afa36c8b94a171b21dccdc35a003c1b75df6", func := "loop.example/g01248/laws.FnExactIsGrown", spec := "fnExactIsGrown", unfollowed := true, recurses := true, apart := false }
def FnExactIsGrownSaid : Prop := fnExactIsGrownRow.holds Try.pinned (OpenSpec.ofChange fnExactIsGrownSpec)

/-- ITS FALSE NEIGHBOUR: 'it returns false'. Refute it at one input. -/
def fnExactIsGrownWrong : ChangeSpec := { name := "fnExactIsGrown", fn := fun _ => fun
  | [d] => { results := [.lit (.bool false)], args := [d] }
  | _ => none }
def FnExactIsGrownWrongFalsely : Prop := fnExactIsGrownRow.holds Try.pinned (OpenSpec.ofChange fnExactIsGrownWrong)

/-- 'laws.FnExactGapNodes': WHATEVER THE INPUT: true; the input reads as it did. -/
def fnExactGapNodesSpec : ChangeSpec := { name := "fnExactGapNodes", fn := fun _ => fun
  | [d] => { results := [.lit (.bool true)], args := [d] }
  | _ => none }
def fnExactGapNodesRow : OpenClaim := { program := "ytiialbnfgichhaa", sum := "de021f0a315b0b09f6ff290457e3afa36c8b94a171b21dccdc35a003c1b75df6", func := "loop.example/g01248/laws.FnExactGapNodes", spec := "fnExactGapNodes", unfollowed := true, recurses := true, apart := false }
def FnExactGapNodesSaid : Prop := fnExactGapNodesRow.holds Try.pinned (OpenSpec.ofChange fnExactGapNodesSpec)

/-- ITS FALSE NEIGHBOUR: 'it returns false'. Refute it at one input. -/
def fnExactGapNodesWrong : ChangeSpec := { name := "fnExactGapNodes", fn := fun _ => fun
  | [d] => { results := [.lit (.bool false)], args := [d] }
  | _ => none }
def FnExactGapNodesWrongFalsely : Prop := fnExactGapNodesRow.holds Try.pinned (OpenSpec.ofChange fnExactGapNodesWrong)

/- THE SECOND FORM. 'bulk': how many values and letters a reading holds, each counted each time it is reached (what is shared counts as often as it is met; a slice's spare places count too). A statement '..UptoSaid' is the law's where the arguments, and the package variables that the reading takes, are together of bulk at most 1048576: NARROWER than '..Said'. Prove '..Said' where nothing that the law and all that it calls make is longer than what came in: it says more and counts as full. Else prove '..UptoSaid'. A law counts once. -/
mutual
def uptoBulk {H : Type} : DataW H → Nat
  | .lit (.string bytes) => bytes.length + 1
  | .lit _ => 1
  | .nil => 1
  | .ptr d => uptoBulk d + 1
  | .slice elems spare => uptoBulkAll elems + uptoBulkAll spare + 1
  | .agg parts => uptoBulkAll parts + 1
  | .iface _ d => uptoBulk d + 1
  | .map entries => uptoBulkEntries entries + 1
  | .held _ => 1
def uptoBulkAll {H : Type} : List (DataW H) → Nat
  | [] => 0
  | d :: r => uptoBulk d + uptoBulkAll r
def uptoBulkEntries {H : Type} : List (Lit × DataW H) → Nat
  | [] => 0
  | x :: r => uptoBulkEntry x + uptoBulkEntries r
def uptoBulkEntry {H : Type} : Lit × DataW H → Nat
  | (.string bytes, d) => bytes.length + uptoBulk d + 1
  | (_, d) => uptoBulk d + 1
 end
def uptoSmall : (H : Type) → List (DataW H) → Bool := fun _ ds => decide (uptoBulkAll ds ≤ 1048576)
def OpenSpec.upto (s : _root_.Go.ChangeSpec) : _root_.Go.OpenSpec := { _root_.Go.OpenSpec.ofChange s with cond := some uptoSmall }

/-- 'laws.FnExactIsJob', WHERE WHAT IT READS IS OF BULK AT MOST 1048576: true; the input reads as it did. -/
def fnExactIsJobUptoRow : OpenClaim := { program := "ytiialbnfgichhaa", sum := "de021f0a315b0b09f6ff290457e3afa36c8b94a171b21dccdc35a003c1b75df6", func := "loop.example/g01248/laws.FnExactIsJob", spec := "fnExactIsJob", apart := false, narrowed := true }
def FnExactIsJobUptoSaid : Prop := fnExactIsJobUptoRow.holds Try.pinned (OpenSpec.upto fnExactIsJobSpec)

/-- 'laws.FnExactStepsOf', WHERE WHAT IT READS IS OF BULK AT MOST 1048576: true; the input reads as it did. -/
def fnExactStepsOfUptoRow : OpenClaim := { program := "ytiialbnfgichhaa", sum := "de021f0a315b0b09f6ff290457e3afa36c8b94a171b21dccdc35a003c1b75df6", func := "loop.example/g01248/laws.FnExactStepsOf", spec := "fnExactStepsOf", apart := false, narrowed := true }
def FnExactStepsOfUptoSaid : Prop := fnExactStepsOfUptoRow.holds Try.pinned (OpenSpec.upto fnExactStepsOfSpec)

/-- 'laws.FnExactPlanInOrder', WHERE WHAT IT READS IS OF BULK AT MOST 1048576: true; the input reads as it did. -/
def fnExactPlanInOrderUptoRow : OpenClaim := { program := "ytiialbnfgichhaa", sum := "de021f0a315b0b09f6ff290457e3afa36c8b94a171b21dccdc35a003c1b75df6", func := "loop.example/g01248/laws.FnExactPlanInOrder", spec := "fnExactPlanInOrder", unfollowed := true, recurses := true, apart := false, narrowed := true }
def FnExactPlanInOrderUptoSaid : Prop := fnExactPlanInOrderUptoRow.holds Try.pinned (OpenSpec.upto fnExactPlanInOrderSpec)

/-- 'laws.FnExactIsPlan', WHERE WHAT IT READS IS OF BULK AT MOST 1048576: true; the input reads as it did. -/
def fnExactIsPlanUptoRow : OpenClaim := { program := "ytiialbnfgichhaa", sum := "de021f0a315b0b09f6ff290457e3afa36c8b94a171b21dccdc35a003c1b75df6", func := "loop.example/g01248/laws.FnExactIsPlan", spec := "fnExactIsPlan", unfollowed := true, recurses := true, apart := false, narrowed := true }
def FnExactIsPlanUptoSaid : Prop := fnExactIsPlanUptoRow.holds Try.pinned (OpenSpec.upto fnExactIsPlanSpec)

/-- 'laws.FnExactEndOf', WHERE WHAT IT READS IS OF BULK AT MOST 1048576: true; the input reads as it did. -/
def fnExactEndOfUptoRow : OpenClaim := { program := "ytiialbnfgichhaa", sum := "de021f0a315b0b09f6ff290457e3afa36c8b94a171b21dccdc35a003c1b75df6", func := "loop.example/g01248/laws.FnExactEndOf", spec := "fnExactEndOf", unfollowed := true, recurses := true, apart := false, narrowed := true }
def FnExactEndOfUptoSaid : Prop := fnExactEndOfUptoRow.holds Try.pinned (OpenSpec.upto fnExactEndOfSpec)

/-- 'laws.FnExactLoadsOf', WHERE WHAT IT READS IS OF BULK AT MOST 1048576: true; the input reads as it did. -/
def fnExactLoadsOfUptoRow : OpenClaim := { program := "ytiialbnfgichhaa", sum := "de021f0a315b0b09f6ff290457e3afa36c8b94a171b21dccdc35a003c1b75df6", func := "loop.example/g01248/laws.FnExactLoadsOf", spec := "fnExactLoadsOf", apart := false, narrowed := true }
def FnExactLoadsOfUptoSaid : Prop := fnExactLoadsOfUptoRow.holds Try.pinned (OpenSpec.upto fnExactLoadsOfSpec)

/-- 'laws.FnExactLeastEnd', WHERE WHAT IT READS IS OF BULK AT MOST 1048576: true; the input reads as it did. -/
def fnExactLeastEndUptoRow : OpenClaim := { program := "ytiialbnfgichhaa", sum := "de021f0a315b0b09f6ff290457e3afa36c8b94a171b21dccdc35a003c1b75df6", func := "loop.example/g01248/laws.FnExactLeastEnd", spec := "fnExactLeastEnd", apart := false, narrowed := true }
def FnExactLeastEndUptoSaid : Prop := fnExactLeastEndUptoRow.holds Try.pinned (OpenSpec.upto fnExactLeastEndSpec)

/-- 'laws.FnExactBestOrder', WHERE WHAT IT READS IS OF BULK AT MOST 1048576: true; the input reads as it did. -/
def fnExactBestOrderUptoRow : OpenClaim := { program := "ytiialbnfgichhaa", sum := "de021f0a315b0b09f6ff290457e3afa36c8b94a171b21dccdc35a003c1b75df6", func := "loop.example/g01248/laws.FnExactBestOrder", spec := "fnExactBestOrder", recurses := true, apart := false, narrowed := true }
def FnExactBestOrderUptoSaid : Prop := fnExactBestOrderUptoRow.holds Try.pinned (OpenSpec.upto fnExactBestOrderSpec)

/-- 'laws.FnExactWaitsOf', WHERE WHAT IT READS IS OF BULK AT MOST 1048576: true; the input reads as it did. -/
def fnExactWaitsOfUptoRow : OpenClaim := { program := "ytiialbnfgichhaa", sum := "de021f0a315b0b09f6ff290457e3afa36c8b94a171b21dccdc35a003c1b75df6", func := "loop.example/g01248/laws.FnExactWaitsOf", spec := "fnExactWaitsOf", unfollowed := true, recurses := true, apart := false, narrowed := true }
def FnExactWaitsOfUptoSaid : Prop := fnExactWaitsOfUptoRow.holds Try.pinned (OpenSpec.upto fnExactWaitsOfSpec)

/-- 'laws.FnExactStreamEnd', WHERE WHAT IT READS IS OF BULK AT MOST 1048576: true; the input reads as it did. -/
def fnExactStreamEndUptoRow : OpenClaim := { program := "ytiialbnfgichhaa", sum := "de021f0a315b0b09f6ff290457e3afa36c8b94a171b21dccdc35a003c1b75df6", func := "loop.example/g01248/laws.FnExactStreamEnd", spec := "fnExactStreamEnd", apart := false, narrowed := true }
def FnExactStreamEndUptoSaid : Prop := fnExactStreamEndUptoRow.holds Try.pinned (OpenSpec.upto fnExactStreamEndSpec)

/-- 'laws.FnExactBusyAt', WHERE WHAT IT READS IS OF BULK AT MOST 1048576: true; the input reads as it did. -/
def fnExactBusyAtUptoRow : OpenClaim := { program := "ytiialbnfgichhaa", sum := "de021f0a315b0b09f6ff290457e3afa36c8b94a171b21dccdc35a003c1b75df6", func := "loop.example/g01248/laws.FnExactBusyAt", spec := "fnExactBusyAt", unfollowed := true, recurses := true, apart := false, narrowed := true }
def FnExactBusyAtUptoSaid : Prop := fnExactBusyAtUptoRow.holds Try.pinned (OpenSpec.upto fnExactBusyAtSpec)

/-- 'laws.FnExactIsGrown', WHERE WHAT IT READS IS OF BULK AT MOST 1048576: true; the input reads as it did. -/
def fnExactIsGrownUptoRow : OpenClaim := { program := "ytiialbnfgichhaa", sum := "de021f0a315b0b09f6ff290457e3afa36c8b94a171b21dccdc35a003c1b75df6", func := "loop.example/g01248/laws.FnExactIsGrown", spec := "fnExactIsGrown", unfollowed := true, recurses := true, apart := false, narrowed := true }
def FnExactIsGrownUptoSaid : Prop := fnExactIsGrownUptoRow.holds Try.pinned (OpenSpec.upto fnExactIsGrownSpec)

/-- 'laws.FnExactGapNodes', WHERE WHAT IT READS IS OF BULK AT MOST 1048576: true; the input reads as it did. -/
def fnExactGapNodesUptoRow : OpenClaim := { program := "ytiialbnfgichhaa", sum := "de021f0a315b0b09f6ff290457e3afa36c8b94a171b21dccdc35a003c1b75df6", func := "loop.example/g01248/laws.FnExactGapNodes", spec := "fnExactGapNodes", unfollowed := true, recurses := true, apart := false, narrowed := true }
def FnExactGapNodesUptoSaid : Prop := fnExactGapNodesUptoRow.holds Try.pinned (OpenSpec.upto fnExactGapNodesSpec)

end Rows
end Go.Proofs.Ytiialbnfgichhaa
