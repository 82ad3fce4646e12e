/-
  No cell of these rows narrows 'for every input' (looked for: loops, veiled, ifaces, maps, wideKeys, modest, calm, conditions, laid).
  DERIVED. THE GIVEN ROWS OF THIS SEAT. 11 by the template 'for every input the law returns true; each argument reads behind the call as it read before'; 0 by the template 'total and deterministic' (their statements: YtgfmcpipbmnagaaTotals.lean).
  GIVEN WITH THE SEED: the statements are not yours to turn. If you find one false, say at which input.
  Laid BY PROGRAM, IN A SANDBOX (cutbox-rows.mjs): the forced cells as the released guide's own fill.sh prints them over the translation 438997ac5e401db6… (all of the seat's roots in one cut). By AI agents, Wed Nov 11 2026. No macro, syntax, notation, axiom, sorry.
-/
import Derived.Test.YtgfmcpipbmnagaaChecked
import GoSem.Claim
import GoSem.ClaimJoined
import GoSem.ClaimMapViews
import Derived.JoinedTies
import Derived.KernelRfl
namespace Go.Proofs.Ytgfmcpipbmnagaa
/- THE CELL 'sum', in the pinned program and in every row, IS THE sha256 OF THE DUMP (.gsa) THAT YtgfmcpipbmnagaaProg.lean LOADS. Nothing in Lean hashes anything: it is a label: what it is worth is what the hold of that sum in a sandbox is worth. -/
noncomputable def Try.pinned : Pinned := { name := "ytgfmcpipbmnagaa", sum := "438997ac5e401db67a5bc4573876ae02db73561d09229402af6466ea7d8240de", checked := Try.checked }
namespace Rows
def none {H : Type} : Left H := { results := [], args := [] }

/-- 'laws.FnExactIsTrace': WHATEVER THE INPUT: true; the input reads as it did. -/
def fnExactIsTraceSpec : ChangeSpec := { name := "fnExactIsTrace", fn := fun _ => fun
  | [d] => { results := [.lit (.bool true)], args := [d] }
  | _ => none }
def fnExactIsTraceRow : OpenClaim := { program := "ytgfmcpipbmnagaa", sum := "438997ac5e401db67a5bc4573876ae02db73561d09229402af6466ea7d8240de", func := "loop.example/g01248/laws.FnExactIsTrace", spec := "fnExactIsTrace", apart := false }
def FnExactIsTraceSaid : Prop := fnExactIsTraceRow.holds Try.pinned (OpenSpec.ofChange fnExactIsTraceSpec)

/-- ITS FALSE NEIGHBOUR: 'it returns false'. Refute it at one input. -/
def fnExactIsTraceWrong : ChangeSpec := { name := "fnExactIsTrace", fn := fun _ => fun
  | [d] => { results := [.lit (.bool false)], args := [d] }
  | _ => none }
def FnExactIsTraceWrongFalsely : Prop := fnExactIsTraceRow.holds Try.pinned (OpenSpec.ofChange fnExactIsTraceWrong)

/-- 'laws.FnExactTraceOf': WHATEVER THE INPUT: true; the input reads as it did. -/
def fnExactTraceOfSpec : ChangeSpec := { name := "fnExactTraceOf", fn := fun _ => fun
  | [d1, d2] => { results := [.lit (.bool true)], args := [d1, d2] }
  | _ => none }
def fnExactTraceOfRow : OpenClaim := { program := "ytgfmcpipbmnagaa", sum := "438997ac5e401db67a5bc4573876ae02db73561d09229402af6466ea7d8240de", func := "loop.example/g01248/laws.FnExactTraceOf", spec := "fnExactTraceOf", apart := false }
def FnExactTraceOfSaid : Prop := fnExactTraceOfRow.holds Try.pinned (OpenSpec.ofChange fnExactTraceOfSpec)

/-- ITS FALSE NEIGHBOUR: 'it returns false'. Refute it at one input. -/
def fnExactTraceOfWrong : ChangeSpec := { name := "fnExactTraceOf", fn := fun _ => fun
  | [d1, d2] => { results := [.lit (.bool false)], args := [d1, d2] }
  | _ => none }
def FnExactTraceOfWrongFalsely : Prop := fnExactTraceOfRow.holds Try.pinned (OpenSpec.ofChange fnExactTraceOfWrong)

/-- 'laws.FnExactDriftOf': WHATEVER THE INPUT: true; the input reads as it did. -/
def fnExactDriftOfSpec : ChangeSpec := { name := "fnExactDriftOf", fn := fun _ => fun
  | [d1, d2] => { results := [.lit (.bool true)], args := [d1, d2] }
  | _ => none }
def fnExactDriftOfRow : OpenClaim := { program := "ytgfmcpipbmnagaa", sum := "438997ac5e401db67a5bc4573876ae02db73561d09229402af6466ea7d8240de", func := "loop.example/g01248/laws.FnExactDriftOf", spec := "fnExactDriftOf", apart := false }
def FnExactDriftOfSaid : Prop := fnExactDriftOfRow.holds Try.pinned (OpenSpec.ofChange fnExactDriftOfSpec)

/-- ITS FALSE NEIGHBOUR: 'it returns false'. Refute it at one input. -/
def fnExactDriftOfWrong : ChangeSpec := { name := "fnExactDriftOf", fn := fun _ => fun
  | [d1, d2] => { results := [.lit (.bool false)], args := [d1, d2] }
  | _ => none }
def FnExactDriftOfWrongFalsely : Prop := fnExactDriftOfRow.holds Try.pinned (OpenSpec.ofChange fnExactDriftOfWrong)

/-- 'laws.FnExactBestUnit': WHATEVER THE INPUT: true; the input reads as it did. -/
def fnExactBestUnitSpec : ChangeSpec := { name := "fnExactBestUnit", fn := fun _ => fun
  | [d] => { results := [.lit (.bool true)], args := [d] }
  | _ => none }
def fnExactBestUnitRow : OpenClaim := { program := "ytgfmcpipbmnagaa", sum := "438997ac5e401db67a5bc4573876ae02db73561d09229402af6466ea7d8240de", func := "loop.example/g01248/laws.FnExactBestUnit", spec := "fnExactBestUnit", apart := false }
def FnExactBestUnitSaid : Prop := fnExactBestUnitRow.holds Try.pinned (OpenSpec.ofChange fnExactBestUnitSpec)

/-- ITS FALSE NEIGHBOUR: 'it returns false'. Refute it at one input. -/
def fnExactBestUnitWrong : ChangeSpec := { name := "fnExactBestUnit", fn := fun _ => fun
  | [d] => { results := [.lit (.bool false)], args := [d] }
  | _ => none }
def FnExactBestUnitWrongFalsely : Prop := fnExactBestUnitRow.holds Try.pinned (OpenSpec.ofChange fnExactBestUnitWrong)

/-- 'laws.FnExactBoundsOf': WHATEVER THE INPUT: true; the input reads as it did. -/
def fnExactBoundsOfSpec : ChangeSpec := { name := "fnExactBoundsOf", fn := fun _ => fun
  | [d1, d2] => { results := [.lit (.bool true)], args := [d1, d2] }
  | _ => none }
def fnExactBoundsOfRow : OpenClaim := { program := "ytgfmcpipbmnagaa", sum := "438997ac5e401db67a5bc4573876ae02db73561d09229402af6466ea7d8240de", func := "loop.example/g01248/laws.FnExactBoundsOf", spec := "fnExactBoundsOf", apart := false }
def FnExactBoundsOfSaid : Prop := fnExactBoundsOfRow.holds Try.pinned (OpenSpec.ofChange fnExactBoundsOfSpec)

/-- ITS FALSE NEIGHBOUR: 'it returns false'. Refute it at one input. -/
def fnExactBoundsOfWrong : ChangeSpec := { name := "fnExactBoundsOf", fn := fun _ => fun
  | [d1, d2] => { results := [.lit (.bool false)], args := [d1, d2] }
  | _ => none }
def FnExactBoundsOfWrongFalsely : Prop := fnExactBoundsOfRow.holds Try.pinned (OpenSpec.ofChange fnExactBoundsOfWrong)

/-- 'laws.FnExactStretchTrace': WHATEVER THE INPUT: true; the input reads as it did. -/
def fnExactStretchTraceSpec : ChangeSpec := { name := "fnExactStretchTrace", fn := fun _ => fun
  | [d1, d2, d3] => { results := [.lit (.bool true)], args := [d1, d2, d3] }
  | _ => none }
def fnExactStretchTraceRow : OpenClaim := { program := "ytgfmcpipbmnagaa", sum := "438997ac5e401db67a5bc4573876ae02db73561d09229402af6466ea7d8240de", func := "loop.example/g01248/laws.FnExactStretchTrace", spec := "fnExactStretchTrace", apart := false }
def FnExactStretchTraceSaid : Prop := fnExactStretchTraceRow.holds Try.pinned (OpenSpec.ofChange fnExactStretchTraceSpec)

/-- ITS FALSE NEIGHBOUR: 'it returns false'. Refute it at one input. -/
def fnExactStretchTraceWrong : ChangeSpec := { name := "fnExactStretchTrace", fn := fun _ => fun
  | [d1, d2, d3] => { results := [.lit (.bool false)], args := [d1, d2, d3] }
  | _ => none }
def FnExactStretchTraceWrongFalsely : Prop := fnExactStretchTraceRow.holds Try.pinned (OpenSpec.ofChange fnExactStretchTraceWrong)

/-- 'laws.FnExactFillShort': WHATEVER THE INPUT: true; the input reads as it did. -/
def fnExactFillShortSpec : ChangeSpec := { name := "fnExactFillShort", fn := fun _ => fun
  | [d1, d2] => { results := [.lit (.bool true)], args := [d1, d2] }
  | _ => none }
def fnExactFillShortRow : OpenClaim := { program := "ytgfmcpipbmnagaa", sum := "438997ac5e401db67a5bc4573876ae02db73561d09229402af6466ea7d8240de", func := "loop.example/g01248/laws.FnExactFillShort", spec := "fnExactFillShort", apart := false }
def FnExactFillShortSaid : Prop := fnExactFillShortRow.holds Try.pinned (OpenSpec.ofChange fnExactFillShortSpec)

/-- ITS FALSE NEIGHBOUR: 'it returns false'. Refute it at one input. -/
def fnExactFillShortWrong : ChangeSpec := { name := "fnExactFillShort", fn := fun _ => fun
  | [d1, d2] => { results := [.lit (.bool false)], args := [d1, d2] }
  | _ => none }
def FnExactFillShortWrongFalsely : Prop := fnExactFillShortRow.holds Try.pinned (OpenSpec.ofChange fnExactFillShortWrong)

/-- 'laws.FnExactDropShort': WHATEVER THE INPUT: true; the input reads as it did. -/
def fnExactDropShortSpec : ChangeSpec := { name := "fnExactDropShort", fn := fun _ => fun
  | [d1, d2] => { results := [.lit (.bool true)], args := [d1, d2] }
  | _ => none }
def fnExactDropShortRow : OpenClaim := { program := "ytgfmcpipbmnagaa", sum := "438997ac5e401db67a5bc4573876ae02db73561d09229402af6466ea7d8240de", func := "loop.example/g01248/laws.FnExactDropShort", spec := "fnExactDropShort", apart := false }
def FnExactDropShortSaid : Prop := fnExactDropShortRow.holds Try.pinned (OpenSpec.ofChange fnExactDropShortSpec)

/-- ITS FALSE NEIGHBOUR: 'it returns false'. Refute it at one input. -/
def fnExactDropShortWrong : ChangeSpec := { name := "fnExactDropShort", fn := fun _ => fun
  | [d1, d2] => { results := [.lit (.bool false)], args := [d1, d2] }
  | _ => none }
def FnExactDropShortWrongFalsely : Prop := fnExactDropShortRow.holds Try.pinned (OpenSpec.ofChange fnExactDropShortWrong)

/-- 'laws.FnExactBackTrace': WHATEVER THE INPUT: true; the input reads as it did. -/
def fnExactBackTraceSpec : ChangeSpec := { name := "fnExactBackTrace", fn := fun _ => fun
  | [d] => { results := [.lit (.bool true)], args := [d] }
  | _ => none }
def fnExactBackTraceRow : OpenClaim := { program := "ytgfmcpipbmnagaa", sum := "438997ac5e401db67a5bc4573876ae02db73561d09229402af6466ea7d8240de", func := "loop.example/g01248/laws.FnExactBackTrace", spec := "fnExactBackTrace", apart := false }
def FnExactBackTraceSaid : Prop := fnExactBackTraceRow.holds Try.pinned (OpenSpec.ofChange fnExactBackTraceSpec)

/-- ITS FALSE NEIGHBOUR: 'it returns false'. Refute it at one input. -/
def fnExactBackTraceWrong : ChangeSpec := { name := "fnExactBackTrace", fn := fun _ => fun
  | [d] => { results := [.lit (.bool false)], args := [d] }
  | _ => none }
def FnExactBackTraceWrongFalsely : Prop := fnExactBackTraceRow.holds Try.pinned (OpenSpec.ofChange fnExactBackTraceWrong)

/-- 'laws.FnExactJoinTraces': WHATEVER THE INPUT: true; the input reads as it did. -/
def fnExactJoinTracesSpec : ChangeSpec := { name := "fnExactJoinTraces", fn := fun _ => fun
  | [d1, d2, d3] => { results := [.lit (.bool true)], args := [d1, d2, d3] }
  | _ => none }
def fnExactJoinTracesRow : OpenClaim := { program := "ytgfmcpipbmnagaa", sum := "438997ac5e401db67a5bc4573876ae02db73561d09229402af6466ea7d8240de", func := "loop.example/g01248/laws.FnExactJoinTraces", spec := "fnExactJoinTraces", apart := false }
def FnExactJoinTracesSaid : Prop := fnExactJoinTracesRow.holds Try.pinned (OpenSpec.ofChange fnExactJoinTracesSpec)

/-- ITS FALSE NEIGHBOUR: 'it returns false'. Refute it at one input. -/
def fnExactJoinTracesWrong : ChangeSpec := { name := "fnExactJoinTraces", fn := fun _ => fun
  | [d1, d2, d3] => { results := [.lit (.bool false)], args := [d1, d2, d3] }
  | _ => none }
def FnExactJoinTracesWrongFalsely : Prop := fnExactJoinTracesRow.holds Try.pinned (OpenSpec.ofChange fnExactJoinTracesWrong)

/-- 'laws.FnKeyed': WHATEVER THE INPUT: true; the input reads as it did. -/
def fnKeyedSpec : ChangeSpec := { name := "fnKeyed", fn := fun _ => fun
  | [d] => { results := [.lit (.bool true)], args := [d] }
  | _ => none }
def fnKeyedRow : OpenClaim := { program := "ytgfmcpipbmnagaa", sum := "438997ac5e401db67a5bc4573876ae02db73561d09229402af6466ea7d8240de", func := "loop.example/g01248/laws.FnKeyed", spec := "fnKeyed", apart := false }
def FnKeyedSaid : Prop := fnKeyedRow.holds Try.pinned (OpenSpec.ofChange fnKeyedSpec)

/-- ITS FALSE NEIGHBOUR: 'it returns false'. Refute it at one input. -/
def fnKeyedWrong : ChangeSpec := { name := "fnKeyed", fn := fun _ => fun
  | [d] => { results := [.lit (.bool false)], args := [d] }
  | _ => none }
def FnKeyedWrongFalsely : Prop := fnKeyedRow.holds Try.pinned (OpenSpec.ofChange fnKeyedWrong)

/- THE SECOND FORM. 'bulk': how many values and letters a reading holds, each counted each time it is reached (what is shared counts as often as it is met; a slice's spare places count too). A statement '..UptoSaid' is the law's where the arguments, and the package variables that the reading takes, are together of bulk at most 1048576: NARROWER than '..Said'. Prove '..Said' where nothing that the law and all that it calls make is longer than what came in: it says more and counts as full. Else prove '..UptoSaid'. A law counts once. -/
mutual
def uptoBulk {H : Type} : DataW H → Nat
  | .lit (.string bytes) => bytes.length + 1
  | .lit _ => 1
  | .nil => 1
  | .ptr d => uptoBulk d + 1
  | .slice elems spare => uptoBulkAll elems + uptoBulkAll spare + 1
  | .agg parts => uptoBulkAll parts + 1
  | .iface _ d => uptoBulk d + 1
  | .map entries => uptoBulkEntries entries + 1
  | .held _ => 1
def uptoBulkAll {H : Type} : List (DataW H) → Nat
  | [] => 0
  | d :: r => uptoBulk d + uptoBulkAll r
def uptoBulkEntries {H : Type} : List (Lit × DataW H) → Nat
  | [] => 0
  | x :: r => uptoBulkEntry x + uptoBulkEntries r
def uptoBulkEntry {H : Type} : Lit × DataW H → Nat
  | (.string bytes, d) => bytes.length + uptoBulk d + 1
  | (_, d) => uptoBulk d + 1
 end
def uptoSmall : (H : Type) → List (DataW H) → Bool := fun _ ds => decide (uptoBulkAll ds ≤ 1048576)
def OpenSpec.upto (s : _root_.Go.ChangeSpec) : _root_.Go.OpenSpec := { _root_.Go.OpenSpec.ofChange s with cond := some uptoSmall }

/-- 'laws.FnExactIsTrace', WHERE WHAT IT READS IS OF BULK AT MOST 1048576: true; the input reads as it did. -/
def fnExactIsTraceUptoRow : OpenClaim := { program := "ytgfmcpipbmnagaa", sum := "438997ac5e401db67a5bc4573876ae02db73561d09229402af6466ea7d8240de", func := "loop.example/g01248/laws.FnExactIsTrace", spec := "fnExactIsTrace", apart := false, narrowed := true }
def FnExactIsTraceUptoSaid : Prop := fnExactIsTraceUptoRow.holds Try.pinned (OpenSpec.upto fnExactIsTraceSpec)

/-- 'laws.FnExactTraceOf', WHERE WHAT IT READS IS OF BULK AT MOST 1048576: true; the input reads as it did. -/
def fnExactTraceOfUptoRow : OpenClaim := { program := "ytgfmcpipbmnagaa", sum := "438997ac5e401db67a5bc4573876ae02db73561d09229402af6466ea7d8240de", func := "loop.example/g01248/laws.FnExactTraceOf", spec := "fnExactTraceOf", apart := false, narrowed := true }
def FnExactTraceOfUptoSaid : Prop := fnExactTraceOfUptoRow.holds Try.pinned (OpenSpec.upto fnExactTraceOfSpec)

/-- 'laws.FnExactDriftOf', WHERE WHAT IT READS IS OF BULK AT MOST 1048576: true; the input reads as it did. -/
def fnExactDriftOfUptoRow : OpenClaim := { program := "ytgfmcpipbmnagaa", sum := "438997ac5e401db67a5bc4573876ae02db73561d09229402af6466ea7d8240de", func := "loop.example/g01248/laws.FnExactDriftOf", spec := "fnExactDriftOf", apart := false, narrowed := true }
def FnExactDriftOfUptoSaid : Prop := fnExactDriftOfUptoRow.holds Try.pinned (OpenSpec.upto fnExactDriftOfSpec)

/-- 'laws.FnExactBestUnit', WHERE WHAT IT READS IS OF BULK AT MOST 1048576: true; the input reads as it did. -/
def fnExactBestUnitUptoRow : OpenClaim := { program := "ytgfmcpipbmnagaa", sum := "438997ac5e401db67a5bc4573876ae02db73561d09229402af6466ea7d8240de", func := "loop.example/g01248/laws.FnExactBestUnit", spec := "fnExactBestUnit", apart := false, narrowed := true }
def FnExactBestUnitUptoSaid : Prop := fnExactBestUnitUptoRow.holds Try.pinned (OpenSpec.upto fnExactBestUnitSpec)

/-- 'laws.FnExactBoundsOf', WHERE WHAT IT READS IS OF BULK AT MOST 1048576: true; the input reads as it did. -/
def fnExactBoundsOfUptoRow : OpenClaim := { program := "ytgfmcpipbmnagaa", sum := "438997ac5e401db67a5bc4573876ae02db73561d09229402af6466ea7d8240de", func := "loop.example/g01248/laws.FnExactBoundsOf", spec := "fnExactBoundsOf", apart := false, narrowed := true }
def FnExactBoundsOfUptoSaid : Prop := fnExactBoundsOfUptoRow.holds Try.pinned (OpenSpec.upto fnExactBoundsOfSpec)

/-- 'laws.FnExactStretchTrace', WHERE WHAT IT READS IS OF BULK AT MOST 1048576: true; the input reads as it did. -/
def fnExactStretchTraceUptoRow : OpenClaim := { program := "ytgfmcpipbmnagaa", sum := "438997ac5e401db67a5bc4573876ae02db73561d09229402af6466ea7d8240de", func := "loop.example/g01248/laws.FnExactStretchTrace", spec := "fnExactStretchTrace", apart := false, narrowed := true }
def FnExactStretchTraceUptoSaid : Prop := fnExactStretchTraceUptoRow.holds Try.pinned (OpenSpec.upto fnExactStretchTraceSpec)

/-- 'laws.FnExactFillShort', WHERE WHAT IT READS IS OF BULK AT MOST 1048576: true; the input reads as it did. -/
def fnExactFillShortUptoRow : OpenClaim := { program := "ytgfmcpipbmnagaa", sum := "438997ac5e401db67a5bc4573876ae02db73561d09229402af6466ea7d8240de", func := "loop.example/g01248/laws.FnExactFillShort", spec := "fnExactFillShort", apart := false, narrowed := true }
def FnExactFillShortUptoSaid : Prop := fnExactFillShortUptoRow.holds Try.pinned (OpenSpec.upto fnExactFillShortSpec)

/-- 'laws.FnExactDropShort', WHERE WHAT IT READS IS OF BULK AT MOST 1048576: true; the input reads as it did. -/
def fnExactDropShortUptoRow : OpenClaim := { program := "ytgfmcpipbmnagaa", sum := "438997ac5e401db67a5bc4573876ae02db73561d09229402af6466ea7d8240de", func := "loop.example/g01248/laws.FnExactDropShort", spec := "fnExactDropShort", apart := false, narrowed := true }
def FnExactDropShortUptoSaid : Prop := fnExactDropShortUptoRow.holds Try.pinned (OpenSpec.upto fnExactDropShortSpec)

/-- 'laws.FnExactBackTrace', WHERE WHAT IT READS IS OF BULK AT MOST 1048576: true; the input reads as it did. -/
def fnExactBackTraceUptoRow : OpenClaim := { program := "ytgfmcpipbmnagaa", sum := "438997ac5e401db67a5bc4573876ae02db73561d09229402af6466ea7d8240de", func := "loop.example/g01248/laws.FnExactBackTrace", spec := "fnExactBackTrace", apart := false, narrowed := true }
def FnExactBackTraceUptoSaid : Prop := fnExactBackTraceUptoRow.holds Try.pinned (OpenSpec.upto fnExactBackTraceSpec)

/-- 'laws.FnExactJoinTraces', WHERE WHAT IT READS IS OF BULK AT MOST 1048576: true; the input reads as it did. -/
def fnExactJoinTracesUptoRow : OpenClaim := { program := "ytgfmcpipbmnagaa", sum := "438997ac5e401db67a5bc4573876ae02db73561d09229402af6466ea7d8240de", func := "loop.example/g01248/laws.FnExactJoinTraces", spec := "fnExactJoinTraces", apart := false, narrowed := true }
def FnExactJoinTracesUptoSaid : Prop := fnExactJoinTracesUptoRow.holds Try.pinned (OpenSpec.upto fnExactJoinTracesSpec)

/-- 'laws.FnKeyed', WHERE WHAT IT READS IS OF BULK AT MOST 1048576: true; the input reads as it did. -/
def fnKeyedUptoRow : OpenClaim := { program := "ytgfmcpipbmnagaa", sum := "438997ac5e401db67a5bc4573876ae02db73561d09229402af6466ea7d8240de", func := "loop.example/g01248/laws.FnKeyed", spec := "fnKeyed", apart := false, narrowed := true }
def FnKeyedUptoSaid : Prop := fnKeyedUptoRow.holds Try.pinned (OpenSpec.upto fnKeyedSpec)

end Rows
end Go.Proofs.Ytgfmcpipbmnagaa
