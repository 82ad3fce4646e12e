/-
  DERIVED. GIVEN WITH THE SEED: THE CARDS: each row of YtgfmcpipbmnagaaDoorRows.lean that lists a variable, with what it lists TIED to the program's text (the seventh form; the later family's looks); each row that meets fmt, with fmt's text TOLD by the authors' own Lean function (tested against real Go, not proved from fmt's source: count such statements apart). THE CARD IS WHAT COUNTS. Prove the row's statement (the work); the ties are given (YtgfmcpipbmnagaaDoorTie.lean); close each card by the builder's one call (the guide's Derived/Test/ToyasCard.lean, 'card_holds'). Laid BY PROGRAM, IN A SANDBOX (cutbox-door.mjs). By AI agents, Wed Nov 11 2026. No macro, syntax, notation, axiom, sorry.
-/
import Derived.Test.YtgfmcpipbmnagaaDoorRows
import GoSem.ClaimSeven
namespace Go.Proofs.YtgfmcpipbmnagaaDoor
namespace Rows

/-- THE TIED CARD OF 'laws.FnExactReadTrace'. -/
def fnExactReadTraceCard : Claim7 := { stood := { row := fnExactReadTraceRow, standIns := [], harness := (true, "99a47cfe67e49cd1ea6f94920b28129891728174954f0465c40eabfac4687b44"), looks := true }, kinds := [], alts := [], laidByText := true, laidKinds := [.sentinel, .sentinel], laidTests := true, laidLooks := .later }
def FnExactReadTraceCardSaid : Prop := Claim7.holds Tryd.pinned (.plain (OpenSpec.ofChange fnExactReadTraceSpec)) fnExactReadTraceCard

/-- THE TIED CARD OF 'laws.FnExactUnitsFor'. -/
def fnExactUnitsForCard : Claim7 := { stood := { row := fnExactUnitsForRow, standIns := [], harness := (true, "99a47cfe67e49cd1ea6f94920b28129891728174954f0465c40eabfac4687b44"), looks := true }, kinds := [], alts := [], laidByText := true, laidKinds := [.sentinel, .sentinel], laidTests := true, laidLooks := .later }
def FnExactUnitsForCardSaid : Prop := Claim7.holds Tryd.pinned (.plain (OpenSpec.ofChange fnExactUnitsForSpec)) fnExactUnitsForCard

/-- THE TIED CARD OF 'laws.FnExactSignalsOf'. -/
def fnExactSignalsOfCard : Claim7 := { stood := { row := fnExactSignalsOfRow, standIns := [], harness := (true, "99a47cfe67e49cd1ea6f94920b28129891728174954f0465c40eabfac4687b44"), looks := true }, kinds := [], alts := [], laidByText := true, laidKinds := [.sentinel, .sentinel], laidTests := true, laidLooks := .later }
def FnExactSignalsOfCardSaid : Prop := Claim7.holds Tryd.pinned (.plain (OpenSpec.ofChange fnExactSignalsOfSpec)) fnExactSignalsOfCard

/-- THE TIED CARD OF 'laws.FnTraces'. -/
def fnTracesCard : Claim7 := { stood := { row := fnTracesRow, standIns := [], harness := (true, "99a47cfe67e49cd1ea6f94920b28129891728174954f0465c40eabfac4687b44"), looks := true }, kinds := [], alts := [], laidByText := true, laidKinds := [.sentinel, .sentinel], laidTests := true, laidLooks := .later }
def FnTracesCardSaid : Prop := Claim7.holds Tryd.pinned (.plain (OpenSpec.ofChange fnTracesSpec)) fnTracesCard

/-- THE SECOND FORM's CARD OF 'laws.FnExactReadTrace'. -/
def fnExactReadTraceUptoCard : Claim7 := { stood := { row := fnExactReadTraceUptoRow, standIns := [], harness := (true, "99a47cfe67e49cd1ea6f94920b28129891728174954f0465c40eabfac4687b44"), looks := true }, kinds := [], alts := [], laidByText := true, laidKinds := [.sentinel, .sentinel], laidTests := true, laidLooks := .later }
def FnExactReadTraceUptoCardSaid : Prop := Claim7.holds Tryd.pinned (.plain (OpenSpec.upto fnExactReadTraceSpec)) fnExactReadTraceUptoCard

/-- THE SECOND FORM's CARD OF 'laws.FnExactUnitsFor'. -/
def fnExactUnitsForUptoCard : Claim7 := { stood := { row := fnExactUnitsForUptoRow, standIns := [], harness := (true, "99a47cfe67e49cd1ea6f94920b28129891728174954f0465c40eabfac4687b44"), looks := true }, kinds := [], alts := [], laidByText := true, laidKinds := [.sentinel, .sentinel], laidTests := true, laidLooks := .later }
def FnExactUnitsForUptoCardSaid : Prop := Claim7.holds Tryd.pinned (.plain (OpenSpec.upto fnExactUnitsForSpec)) fnExactUnitsForUptoCard

/-- THE SECOND FORM's CARD OF 'laws.FnExactSignalsOf'. -/
def fnExactSignalsOfUptoCard : Claim7 := { stood := { row := fnExactSignalsOfUptoRow, standIns := [], harness := (true, "99a47cfe67e49cd1ea6f94920b28129891728174954f0465c40eabfac4687b44"), looks := true }, kinds := [], alts := [], laidByText := true, laidKinds := [.sentinel, .sentinel], laidTests := true, laidLooks := .later }
def FnExactSignalsOfUptoCardSaid : Prop := Claim7.holds Tryd.pinned (.plain (OpenSpec.upto fnExactSignalsOfSpec)) fnExactSignalsOfUptoCard

/-- THE SECOND FORM's CARD OF 'laws.FnTraces'. -/
def fnTracesUptoCard : Claim7 := { stood := { row := fnTracesUptoRow, standIns := [], harness := (true, "99a47cfe67e49cd1ea6f94920b28129891728174954f0465c40eabfac4687b44"), looks := true }, kinds := [], alts := [], laidByText := true, laidKinds := [.sentinel, .sentinel], laidTests := true, laidLooks := .later }
def FnTracesUptoCardSaid : Prop := Claim7.holds Tryd.pinned (.plain (OpenSpec.upto fnTracesSpec)) fnTracesUptoCard
end Rows
end Go.Proofs.YtgfmcpipbmnagaaDoor
