/-
  NARROWER THAN 'FOR EVERY INPUT', by the rows' own cells (each row's printed sentence says how): FnExactReadTrace: ifaces, laid · FnExactUnitsFor: ifaces, laid · FnExactSignalsOf: ifaces, laid · FnTraces: ifaces, laid.
  DERIVED. THE GIVEN ROWS OF THIS SEAT. 4 by the template 'for every input the law returns true; each argument reads behind the call as it read before'; 0 by the template 'total and deterministic' (their statements: YtgfmcpipbmnagaaDoorTotals.lean).
  GIVEN WITH THE SEED: the statements are not yours to turn. If you find one false, say at which input.
  Laid BY PROGRAM, IN A SANDBOX (cutbox-rows.mjs): the forced cells as the released guide's own fill.sh prints them over the translation 16e211c0544f7658… (all of the seat's roots in one cut). By AI agents, Wed Nov 11 2026. No macro, syntax, notation, axiom, sorry.
-/
import Derived.Test.YtgfmcpipbmnagaaDoorChecked
import GoSem.Claim
import GoSem.ClaimJoined
import GoSem.ClaimMapViews
import Derived.JoinedTies
import Derived.KernelRfl
namespace Go.Proofs.YtgfmcpipbmnagaaDoor
/- THE CELL 'sum', in the pinned program and in every row, IS THE sha256 OF THE DUMP (.gsa) THAT YtgfmcpipbmnagaaDoorProg.lean LOADS. Nothing in Lean hashes anything: it is a label: what it is worth is what the hold of that sum in a sandbox is worth. -/
noncomputable def Tryd.pinned : Pinned := { name := "ytgfmcpipbmnagaadoor", sum := "16e211c0544f76586acce0c14f035f581ab26bf83f918d208dac73f6debad181", checked := Tryd.checked }
namespace Rows
def none {H : Type} : Left H := { results := [], args := [] }

/- WHAT THE LISTED PACKAGE-LEVEL VARIABLES READ AS WHEN THE CALL BEGINS. Each datum BY PROGRAM (the guide's laid-datum.mjs) off the statement by which the dump's own 'gosem.cut.vars' lays the variable. In a bare row this is a premise. The card (YtgfmcpipbmnagaaDoorCards.lean) ties it to the program's text. -/
def laid_loop_example_g01248_impl_errNotValid {H : Type} : DataW H := .iface "*errors.errorString" (.ptr (.agg [.lit (.string [116, 104, 101, 32, 116, 114, 97, 99, 101, 32, 111, 114, 32, 116, 104, 101, 32, 117, 110, 105, 116, 32, 105, 115, 32, 110, 111, 116, 32, 118, 97, 108, 105, 100])]))
def laid_loop_example_g01248_impl_errNoSignal {H : Type} : DataW H := .iface "*errors.errorString" (.ptr (.agg [.lit (.string [119, 104, 97, 116, 32, 105, 115, 32, 114, 101, 97, 100, 32, 105, 115, 32, 110, 111, 32, 115, 105, 103, 110, 97, 108])]))

/-- 'laws.FnExactReadTrace': WHATEVER THE INPUT: true; the input reads as it did. -/
def fnExactReadTraceSpec : ChangeSpec := { name := "fnExactReadTrace", vars := ["loop.example/g01248/impl.errNotValid", "loop.example/g01248/impl.errNoSignal"], fn := fun _ => fun
  | [d1, d2, g1, g2] => { results := [.lit (.bool true)], args := [d1, d2], vars := [g1, g2] }
  | _ => none }
def fnExactReadTraceRow : OpenClaim := { program := "ytgfmcpipbmnagaadoor", sum := "16e211c0544f76586acce0c14f035f581ab26bf83f918d208dac73f6debad181", func := "loop.example/g01248/laws.FnExactReadTrace", spec := "fnExactReadTrace", named := ["loop.example/g01248/impl.errNotValid", "loop.example/g01248/impl.errNoSignal"], ifaces := true, apart := false, laid := [("loop.example/g01248/impl.errNotValid", laid_loop_example_g01248_impl_errNotValid), ("loop.example/g01248/impl.errNoSignal", laid_loop_example_g01248_impl_errNoSignal)] }
def FnExactReadTraceSaid : Prop := fnExactReadTraceRow.holds Tryd.pinned (OpenSpec.ofChange fnExactReadTraceSpec)

/-- ITS FALSE NEIGHBOUR: 'it returns false'. Refute it at one input. -/
def fnExactReadTraceWrong : ChangeSpec := { name := "fnExactReadTrace", vars := ["loop.example/g01248/impl.errNotValid", "loop.example/g01248/impl.errNoSignal"], fn := fun _ => fun
  | [d1, d2, g1, g2] => { results := [.lit (.bool false)], args := [d1, d2], vars := [g1, g2] }
  | _ => none }
def FnExactReadTraceWrongFalsely : Prop := fnExactReadTraceRow.holds Tryd.pinned (OpenSpec.ofChange fnExactReadTraceWrong)

/-- 'laws.FnExactUnitsFor': WHATEVER THE INPUT: true; the input reads as it did. -/
def fnExactUnitsForSpec : ChangeSpec := { name := "fnExactUnitsFor", vars := ["loop.example/g01248/impl.errNoSignal", "loop.example/g01248/impl.errNotValid"], fn := fun _ => fun
  | [d1, d2, g1, g2] => { results := [.lit (.bool true)], args := [d1, d2], vars := [g1, g2] }
  | _ => none }
def fnExactUnitsForRow : OpenClaim := { program := "ytgfmcpipbmnagaadoor", sum := "16e211c0544f76586acce0c14f035f581ab26bf83f918d208dac73f6debad181", func := "loop.example/g01248/laws.FnExactUnitsFor", spec := "fnExactUnitsFor", inPlace := ["internal/reflectlite.TypeOf"], unfollowed := true, recurses := true, named := ["loop.example/g01248/impl.errNoSignal", "loop.example/g01248/impl.errNotValid"], ifaces := true, apart := false, laid := [("loop.example/g01248/impl.errNotValid", laid_loop_example_g01248_impl_errNotValid), ("loop.example/g01248/impl.errNoSignal", laid_loop_example_g01248_impl_errNoSignal)] }
def FnExactUnitsForSaid : Prop := fnExactUnitsForRow.holds Tryd.pinned (OpenSpec.ofChange fnExactUnitsForSpec)

/-- ITS FALSE NEIGHBOUR: 'it returns false'. Refute it at one input. -/
def fnExactUnitsForWrong : ChangeSpec := { name := "fnExactUnitsFor", vars := ["loop.example/g01248/impl.errNoSignal", "loop.example/g01248/impl.errNotValid"], fn := fun _ => fun
  | [d1, d2, g1, g2] => { results := [.lit (.bool false)], args := [d1, d2], vars := [g1, g2] }
  | _ => none }
def FnExactUnitsForWrongFalsely : Prop := fnExactUnitsForRow.holds Tryd.pinned (OpenSpec.ofChange fnExactUnitsForWrong)

/-- 'laws.FnExactSignalsOf': WHATEVER THE INPUT: true; the input reads as it did. -/
def fnExactSignalsOfSpec : ChangeSpec := { name := "fnExactSignalsOf", vars := ["loop.example/g01248/impl.errNoSignal", "loop.example/g01248/impl.errNotValid"], fn := fun _ => fun
  | [d, g1, g2] => { results := [.lit (.bool true)], args := [d], vars := [g1, g2] }
  | _ => none }
def fnExactSignalsOfRow : OpenClaim := { program := "ytgfmcpipbmnagaadoor", sum := "16e211c0544f76586acce0c14f035f581ab26bf83f918d208dac73f6debad181", func := "loop.example/g01248/laws.FnExactSignalsOf", spec := "fnExactSignalsOf", inPlace := ["internal/reflectlite.TypeOf"], unfollowed := true, recurses := true, named := ["loop.example/g01248/impl.errNoSignal", "loop.example/g01248/impl.errNotValid"], ifaces := true, apart := false, laid := [("loop.example/g01248/impl.errNotValid", laid_loop_example_g01248_impl_errNotValid), ("loop.example/g01248/impl.errNoSignal", laid_loop_example_g01248_impl_errNoSignal)] }
def FnExactSignalsOfSaid : Prop := fnExactSignalsOfRow.holds Tryd.pinned (OpenSpec.ofChange fnExactSignalsOfSpec)

/-- ITS FALSE NEIGHBOUR: 'it returns false'. Refute it at one input. -/
def fnExactSignalsOfWrong : ChangeSpec := { name := "fnExactSignalsOf", vars := ["loop.example/g01248/impl.errNoSignal", "loop.example/g01248/impl.errNotValid"], fn := fun _ => fun
  | [d, g1, g2] => { results := [.lit (.bool false)], args := [d], vars := [g1, g2] }
  | _ => none }
def FnExactSignalsOfWrongFalsely : Prop := fnExactSignalsOfRow.holds Tryd.pinned (OpenSpec.ofChange fnExactSignalsOfWrong)

/-- 'laws.FnTraces': WHATEVER THE INPUT: true; the input reads as it did. -/
def fnTracesSpec : ChangeSpec := { name := "fnTraces", vars := ["loop.example/g01248/impl.errNotValid", "loop.example/g01248/impl.errNoSignal"], fn := fun _ => fun
  | [d, g1, g2] => { results := [.lit (.bool true)], args := [d], vars := [g1, g2] }
  | _ => none }
def fnTracesRow : OpenClaim := { program := "ytgfmcpipbmnagaadoor", sum := "16e211c0544f76586acce0c14f035f581ab26bf83f918d208dac73f6debad181", func := "loop.example/g01248/laws.FnTraces", spec := "fnTraces", inPlace := ["internal/reflectlite.TypeOf"], unfollowed := true, recurses := true, named := ["loop.example/g01248/impl.errNotValid", "loop.example/g01248/impl.errNoSignal"], ifaces := true, apart := false, laid := [("loop.example/g01248/impl.errNotValid", laid_loop_example_g01248_impl_errNotValid), ("loop.example/g01248/impl.errNoSignal", laid_loop_example_g01248_impl_errNoSignal)] }
def FnTracesSaid : Prop := fnTracesRow.holds Tryd.pinned (OpenSpec.ofChange fnTracesSpec)

/-- ITS FALSE NEIGHBOUR: 'it returns false'. Refute it at one input. -/
def fnTracesWrong : ChangeSpec := { name := "fnTraces", vars := ["loop.example/g01248/impl.errNotValid", "loop.example/g01248/impl.errNoSignal"], fn := fun _ => fun
  | [d, g1, g2] => { results := [.lit (.bool false)], args := [d], vars := [g1, g2] }
  | _ => none }
def FnTracesWrongFalsely : Prop := fnTracesRow.holds Tryd.pinned (OpenSpec.ofChange fnTracesWrong)

/- THE SECOND FORM. 'bulk': how many values and letters a reading holds, each counted each time it is reached (what is shared counts as often as it is met; a slice's spare places count too). A statement '..UptoSaid' is the law's where the arguments, and the package variables that the reading takes, are together of bulk at most 1048576: NARROWER than '..Said'. Prove '..Said' where nothing that the law and all that it calls make is longer than what came in: it says more and counts as full. Else prove '..UptoSaid'. A law counts once. -/
mutual
def uptoBulk {H : Type} : DataW H → Nat
  | .lit (.string bytes) => bytes.length + 1
  | .lit _ => 1
  | .nil => 1
  | .ptr d => uptoBulk d + 1
  | .slice elems spare => uptoBulkAll elems + uptoBulkAll spare + 1
  | .agg parts => uptoBulkAll parts + 1
  | .iface _ d => uptoBulk d + 1
  | .map entries => uptoBulkEntries entries + 1
  | .held _ => 1
def uptoBulkAll {H : Type} : List (DataW H) → Nat
  | [] => 0
  | d :: r => uptoBulk d + uptoBulkAll r
def uptoBulkEntries {H : Type} : List (Lit × DataW H) → Nat
  | [] => 0
  | x :: r => uptoBulkEntry x + uptoBulkEntries r
def uptoBulkEntry {H : Type} : Lit × DataW H → Nat
  | (.string bytes, d) => bytes.length + uptoBulk d + 1
  | (_, d) => uptoBulk d + 1
 end
def uptoSmall : (H : Type) → List (DataW H) → Bool := fun _ ds => decide (uptoBulkAll ds ≤ 1048576)
def OpenSpec.upto (s : _root_.Go.ChangeSpec) : _root_.Go.OpenSpec := { _root_.Go.OpenSpec.ofChange s with cond := some uptoSmall }

/-- 'laws.FnExactReadTrace', WHERE WHAT IT READS IS OF BULK AT MOST 1048576: true; the input reads as it did. -/
def fnExactReadTraceUptoRow : OpenClaim := { program := "ytgfmcpipbmnagaadoor", sum := "16e211c0544f76586acce0c14f035f581ab26bf83f918d208dac73f6debad181", func := "loop.example/g01248/laws.FnExactReadTrace", spec := "fnExactReadTrace", named := ["loop.example/g01248/impl.errNotValid", "loop.example/g01248/impl.errNoSignal"], ifaces := true, apart := false, laid := [("loop.example/g01248/impl.errNotValid", laid_loop_example_g01248_impl_errNotValid), ("loop.example/g01248/impl.errNoSignal", laid_loop_example_g01248_impl_errNoSignal)], narrowed := true }
def FnExactReadTraceUptoSaid : Prop := fnExactReadTraceUptoRow.holds Tryd.pinned (OpenSpec.upto fnExactReadTraceSpec)

/-- 'laws.FnExactUnitsFor', WHERE WHAT IT READS IS OF BULK AT MOST 1048576: true; the input reads as it did. -/
def fnExactUnitsForUptoRow : OpenClaim := { program := "ytgfmcpipbmnagaadoor", sum := "16e211c0544f76586acce0c14f035f581ab26bf83f918d208dac73f6debad181", func := "loop.example/g01248/laws.FnExactUnitsFor", spec := "fnExactUnitsFor", inPlace := ["internal/reflectlite.TypeOf"], unfollowed := true, recurses := true, named := ["loop.example/g01248/impl.errNoSignal", "loop.example/g01248/impl.errNotValid"], ifaces := true, apart := false, laid := [("loop.example/g01248/impl.errNotValid", laid_loop_example_g01248_impl_errNotValid), ("loop.example/g01248/impl.errNoSignal", laid_loop_example_g01248_impl_errNoSignal)], narrowed := true }
def FnExactUnitsForUptoSaid : Prop := fnExactUnitsForUptoRow.holds Tryd.pinned (OpenSpec.upto fnExactUnitsForSpec)

/-- 'laws.FnExactSignalsOf', WHERE WHAT IT READS IS OF BULK AT MOST 1048576: true; the input reads as it did. -/
def fnExactSignalsOfUptoRow : OpenClaim := { program := "ytgfmcpipbmnagaadoor", sum := "16e211c0544f76586acce0c14f035f581ab26bf83f918d208dac73f6debad181", func := "loop.example/g01248/laws.FnExactSignalsOf", spec := "fnExactSignalsOf", inPlace := ["internal/reflectlite.TypeOf"], unfollowed := true, recurses := true, named := ["loop.example/g01248/impl.errNoSignal", "loop.example/g01248/impl.errNotValid"], ifaces := true, apart := false, laid := [("loop.example/g01248/impl.errNotValid", laid_loop_example_g01248_impl_errNotValid), ("loop.example/g01248/impl.errNoSignal", laid_loop_example_g01248_impl_errNoSignal)], narrowed := true }
def FnExactSignalsOfUptoSaid : Prop := fnExactSignalsOfUptoRow.holds Tryd.pinned (OpenSpec.upto fnExactSignalsOfSpec)

/-- 'laws.FnTraces', WHERE WHAT IT READS IS OF BULK AT MOST 1048576: true; the input reads as it did. -/
def fnTracesUptoRow : OpenClaim := { program := "ytgfmcpipbmnagaadoor", sum := "16e211c0544f76586acce0c14f035f581ab26bf83f918d208dac73f6debad181", func := "loop.example/g01248/laws.FnTraces", spec := "fnTraces", inPlace := ["internal/reflectlite.TypeOf"], unfollowed := true, recurses := true, named := ["loop.example/g01248/impl.errNotValid", "loop.example/g01248/impl.errNoSignal"], ifaces := true, apart := false, laid := [("loop.example/g01248/impl.errNotValid", laid_loop_example_g01248_impl_errNotValid), ("loop.example/g01248/impl.errNoSignal", laid_loop_example_g01248_impl_errNoSignal)], narrowed := true }
def FnTracesUptoSaid : Prop := fnTracesUptoRow.holds Tryd.pinned (OpenSpec.upto fnTracesSpec)

end Rows
end Go.Proofs.YtgfmcpipbmnagaaDoor
