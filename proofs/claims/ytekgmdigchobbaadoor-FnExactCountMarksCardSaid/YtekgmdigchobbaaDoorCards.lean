/-
  DERIVED. GIVEN WITH THE SEED: THE CARDS: each row of YtekgmdigchobbaaDoorRows.lean that lists a variable, with what it lists TIED to the program's text (the seventh form; the later family's looks); each row that meets fmt, with fmt's text TOLD by the authors' own Lean function (tested against real Go, not proved from fmt's source: count such statements apart). THE CARD IS WHAT COUNTS. Prove the row's statement (the work); the ties are given (YtekgmdigchobbaaDoorTie.lean); close each card by the builder's one call (the guide's Derived/Test/ToyasCard.lean, 'card_holds'). Laid BY PROGRAM, IN A SANDBOX (cutbox-door.mjs). By AI agents, Wed Nov 11 2026. No macro, syntax, notation, axiom, sorry.
-/
import Derived.Test.YtekgmdigchobbaaDoorRows
import GoSem.ClaimSeven
namespace Go.Proofs.YtekgmdigchobbaaDoor
namespace Rows

/-- THE TIED CARD OF 'laws.FnSignals'. -/
def fnSignalsCard : Claim7 := { stood := { row := fnSignalsRow, standIns := [], harness := (true, "7fc7951a8cd8539d135a3ebbf4d6ccbf4a679a117f737b63dde5e55b34044ee6"), looks := false }, kinds := [], alts := [], laidByText := true, laidKinds := [.data, .pinned], laidTests := true, laidLooks := .later }
def FnSignalsCardSaid : Prop := Claim7.holds Tryd.pinned (.plain (OpenSpec.ofChange fnSignalsSpec)) fnSignalsCard

/-- THE TIED CARD OF 'laws.FnExactEncodeMessage'. -/
def fnExactEncodeMessageCard : Claim7 := { stood := { row := fnExactEncodeMessageRow, standIns := [], harness := (true, "7fc7951a8cd8539d135a3ebbf4d6ccbf4a679a117f737b63dde5e55b34044ee6"), looks := false }, kinds := [], alts := [], laidByText := true, laidKinds := [.data, .pinned], laidTests := true, laidLooks := .later }
def FnExactEncodeMessageCardSaid : Prop := Claim7.holds Tryd.pinned (.plain (OpenSpec.ofChange fnExactEncodeMessageSpec)) fnExactEncodeMessageCard

/-- THE TIED CARD OF 'laws.FnExactTimeOfMessage'. -/
def fnExactTimeOfMessageCard : Claim7 := { stood := { row := fnExactTimeOfMessageRow, standIns := [], harness := (true, "7fc7951a8cd8539d135a3ebbf4d6ccbf4a679a117f737b63dde5e55b34044ee6"), looks := false }, kinds := [], alts := [], laidByText := true, laidKinds := [.data, .pinned], laidTests := true, laidLooks := .later }
def FnExactTimeOfMessageCardSaid : Prop := Claim7.holds Tryd.pinned (.plain (OpenSpec.ofChange fnExactTimeOfMessageSpec)) fnExactTimeOfMessageCard

/-- THE TIED CARD OF 'laws.FnExactCountMarks'. -/
def fnExactCountMarksCard : Claim7 := { stood := { row := fnExactCountMarksRow, standIns := [], harness := (true, "7fc7951a8cd8539d135a3ebbf4d6ccbf4a679a117f737b63dde5e55b34044ee6"), looks := false }, kinds := [], alts := [], laidByText := true, laidKinds := [.data, .pinned], laidTests := true, laidLooks := .later }
def FnExactCountMarksCardSaid : Prop := Claim7.holds Tryd.pinned (.plain (OpenSpec.ofChange fnExactCountMarksSpec)) fnExactCountMarksCard

/-- THE TIED CARD OF 'laws.FnExactBareOf'. -/
def fnExactBareOfCard : Claim7 := { stood := { row := fnExactBareOfRow, standIns := [], harness := (true, "7fc7951a8cd8539d135a3ebbf4d6ccbf4a679a117f737b63dde5e55b34044ee6"), looks := false }, kinds := [], alts := [], laidByText := true, laidKinds := [.data, .pinned], laidTests := true, laidLooks := .later }
def FnExactBareOfCardSaid : Prop := Claim7.holds Tryd.pinned (.plain (OpenSpec.ofChange fnExactBareOfSpec)) fnExactBareOfCard

/-- THE SECOND FORM's CARD OF 'laws.FnSignals'. -/
def fnSignalsUptoCard : Claim7 := { stood := { row := fnSignalsUptoRow, standIns := [], harness := (true, "7fc7951a8cd8539d135a3ebbf4d6ccbf4a679a117f737b63dde5e55b34044ee6"), looks := false }, kinds := [], alts := [], laidByText := true, laidKinds := [.data, .pinned], laidTests := true, laidLooks := .later }
def FnSignalsUptoCardSaid : Prop := Claim7.holds Tryd.pinned (.plain (OpenSpec.upto fnSignalsSpec)) fnSignalsUptoCard

/-- THE SECOND FORM's CARD OF 'laws.FnExactEncodeMessage'. -/
def fnExactEncodeMessageUptoCard : Claim7 := { stood := { row := fnExactEncodeMessageUptoRow, standIns := [], harness := (true, "7fc7951a8cd8539d135a3ebbf4d6ccbf4a679a117f737b63dde5e55b34044ee6"), looks := false }, kinds := [], alts := [], laidByText := true, laidKinds := [.data, .pinned], laidTests := true, laidLooks := .later }
def FnExactEncodeMessageUptoCardSaid : Prop := Claim7.holds Tryd.pinned (.plain (OpenSpec.upto fnExactEncodeMessageSpec)) fnExactEncodeMessageUptoCard

/-- THE SECOND FORM's CARD OF 'laws.FnExactTimeOfMessage'. -/
def fnExactTimeOfMessageUptoCard : Claim7 := { stood := { row := fnExactTimeOfMessageUptoRow, standIns := [], harness := (true, "7fc7951a8cd8539d135a3ebbf4d6ccbf4a679a117f737b63dde5e55b34044ee6"), looks := false }, kinds := [], alts := [], laidByText := true, laidKinds := [.data, .pinned], laidTests := true, laidLooks := .later }
def FnExactTimeOfMessageUptoCardSaid : Prop := Claim7.holds Tryd.pinned (.plain (OpenSpec.upto fnExactTimeOfMessageSpec)) fnExactTimeOfMessageUptoCard

/-- THE SECOND FORM's CARD OF 'laws.FnExactCountMarks'. -/
def fnExactCountMarksUptoCard : Claim7 := { stood := { row := fnExactCountMarksUptoRow, standIns := [], harness := (true, "7fc7951a8cd8539d135a3ebbf4d6ccbf4a679a117f737b63dde5e55b34044ee6"), looks := false }, kinds := [], alts := [], laidByText := true, laidKinds := [.data, .pinned], laidTests := true, laidLooks := .later }
def FnExactCountMarksUptoCardSaid : Prop := Claim7.holds Tryd.pinned (.plain (OpenSpec.upto fnExactCountMarksSpec)) fnExactCountMarksUptoCard

/-- THE SECOND FORM's CARD OF 'laws.FnExactBareOf'. -/
def fnExactBareOfUptoCard : Claim7 := { stood := { row := fnExactBareOfUptoRow, standIns := [], harness := (true, "7fc7951a8cd8539d135a3ebbf4d6ccbf4a679a117f737b63dde5e55b34044ee6"), looks := false }, kinds := [], alts := [], laidByText := true, laidKinds := [.data, .pinned], laidTests := true, laidLooks := .later }
def FnExactBareOfUptoCardSaid : Prop := Claim7.holds Tryd.pinned (.plain (OpenSpec.upto fnExactBareOfSpec)) fnExactBareOfUptoCard
end Rows
end Go.Proofs.YtekgmdigchobbaaDoor
