/-
  DERIVED. GIVEN WITH THE SEED: THE CARDS: each row of YtijhfmjkiijhiaaDoorRows.lean that lists a variable, with what it lists TIED to the program's text (the seventh form; the later family's looks); each row that meets fmt, with fmt's text TOLD by the authors' own Lean function (tested against real Go, not proved from fmt's source: count such statements apart). THE CARD IS WHAT COUNTS. Prove the row's statement (the work); the ties are given (YtijhfmjkiijhiaaDoorTie.lean); close each card by the builder's one call (the guide's Derived/Test/ToyasCard.lean, 'card_holds'). Laid BY PROGRAM, IN A SANDBOX (cutbox-door.mjs). By AI agents, Wed Nov 11 2026. No macro, syntax, notation, axiom, sorry.
-/
import Derived.Test.YtijhfmjkiijhiaaDoorRows
import GoSem.ClaimSeven
namespace Go.Proofs.YtijhfmjkiijhiaaDoor
namespace Rows

/-- THE TIED CARD OF 'laws.FnExactIsLine'. -/
def fnExactIsLineCard : Claim7 := { stood := { row := fnExactIsLineRow, standIns := [], harness := (true, "08c4a189e8f061e4fcd469b7030cb2ca33ecfa8549015912925158e334c64226"), looks := false }, kinds := [], alts := [], laidByText := true, laidKinds := [.data, .pinned], laidTests := true, laidLooks := .later }
def FnExactIsLineCardSaid : Prop := Claim7.holds Tryd.pinned (.plain (OpenSpec.ofChange fnExactIsLineSpec)) fnExactIsLineCard

/-- THE TIED CARD OF 'laws.FnExactSignalOf'. -/
def fnExactSignalOfCard : Claim7 := { stood := { row := fnExactSignalOfRow, standIns := [], harness := (true, "08c4a189e8f061e4fcd469b7030cb2ca33ecfa8549015912925158e334c64226"), looks := false }, kinds := [], alts := [], laidByText := true, laidKinds := [.data, .pinned], laidTests := true, laidLooks := .later }
def FnExactSignalOfCardSaid : Prop := Claim7.holds Tryd.pinned (.plain (OpenSpec.ofChange fnExactSignalOfSpec)) fnExactSignalOfCard

/-- THE TIED CARD OF 'laws.FnExactRunsOf'. -/
def fnExactRunsOfCard : Claim7 := { stood := { row := fnExactRunsOfRow, standIns := [], harness := (true, "08c4a189e8f061e4fcd469b7030cb2ca33ecfa8549015912925158e334c64226"), looks := false }, kinds := [], alts := [], laidByText := true, laidKinds := [.data, .pinned], laidTests := true, laidLooks := .later }
def FnExactRunsOfCardSaid : Prop := Claim7.holds Tryd.pinned (.plain (OpenSpec.ofChange fnExactRunsOfSpec)) fnExactRunsOfCard

/-- THE TIED CARD OF 'laws.FnExactCountOn'. -/
def fnExactCountOnCard : Claim7 := { stood := { row := fnExactCountOnRow, standIns := [], harness := (true, "08c4a189e8f061e4fcd469b7030cb2ca33ecfa8549015912925158e334c64226"), looks := false }, kinds := [], alts := [], laidByText := true, laidKinds := [.data, .pinned], laidTests := true, laidLooks := .later }
def FnExactCountOnCardSaid : Prop := Claim7.holds Tryd.pinned (.plain (OpenSpec.ofChange fnExactCountOnSpec)) fnExactCountOnCard

/-- THE TIED CARD OF 'laws.FnExactDelayLine'. -/
def fnExactDelayLineCard : Claim7 := { stood := { row := fnExactDelayLineRow, standIns := [], harness := (true, "08c4a189e8f061e4fcd469b7030cb2ca33ecfa8549015912925158e334c64226"), looks := false }, kinds := [], alts := [], laidByText := true, laidKinds := [.data, .pinned], laidTests := true, laidLooks := .later }
def FnExactDelayLineCardSaid : Prop := Claim7.holds Tryd.pinned (.plain (OpenSpec.ofChange fnExactDelayLineSpec)) fnExactDelayLineCard

/-- THE TIED CARD OF 'laws.FnExactJoinLines'. -/
def fnExactJoinLinesCard : Claim7 := { stood := { row := fnExactJoinLinesRow, standIns := [], harness := (true, "08c4a189e8f061e4fcd469b7030cb2ca33ecfa8549015912925158e334c64226"), looks := false }, kinds := [], alts := [], laidByText := true, laidKinds := [.data, .pinned], laidTests := true, laidLooks := .later }
def FnExactJoinLinesCardSaid : Prop := Claim7.holds Tryd.pinned (.plain (OpenSpec.ofChange fnExactJoinLinesSpec)) fnExactJoinLinesCard

/-- THE TIED CARD OF 'laws.FnExactClashOf'. -/
def fnExactClashOfCard : Claim7 := { stood := { row := fnExactClashOfRow, standIns := [], harness := (true, "08c4a189e8f061e4fcd469b7030cb2ca33ecfa8549015912925158e334c64226"), looks := false }, kinds := [], alts := [], laidByText := true, laidKinds := [.data, .pinned], laidTests := true, laidLooks := .later }
def FnExactClashOfCardSaid : Prop := Claim7.holds Tryd.pinned (.plain (OpenSpec.ofChange fnExactClashOfSpec)) fnExactClashOfCard

/-- THE TIED CARD OF 'laws.FnExactLeastDelay'. -/
def fnExactLeastDelayCard : Claim7 := { stood := { row := fnExactLeastDelayRow, standIns := [], harness := (true, "08c4a189e8f061e4fcd469b7030cb2ca33ecfa8549015912925158e334c64226"), looks := false }, kinds := [], alts := [], laidByText := true, laidKinds := [.data, .pinned], laidTests := true, laidLooks := .later }
def FnExactLeastDelayCardSaid : Prop := Claim7.holds Tryd.pinned (.plain (OpenSpec.ofChange fnExactLeastDelaySpec)) fnExactLeastDelayCard

/-- THE TIED CARD OF 'laws.FnExactStretchLine'. -/
def fnExactStretchLineCard : Claim7 := { stood := { row := fnExactStretchLineRow, standIns := [], harness := (true, "08c4a189e8f061e4fcd469b7030cb2ca33ecfa8549015912925158e334c64226"), looks := false }, kinds := [], alts := [], laidByText := true, laidKinds := [.data, .pinned], laidTests := true, laidLooks := .later }
def FnExactStretchLineCardSaid : Prop := Claim7.holds Tryd.pinned (.plain (OpenSpec.ofChange fnExactStretchLineSpec)) fnExactStretchLineCard

/-- THE TIED CARD OF 'laws.FnExactUnitOf'. -/
def fnExactUnitOfCard : Claim7 := { stood := { row := fnExactUnitOfRow, standIns := [], harness := (true, "08c4a189e8f061e4fcd469b7030cb2ca33ecfa8549015912925158e334c64226"), looks := false }, kinds := [], alts := [], laidByText := true, laidKinds := [.data, .pinned], laidTests := true, laidLooks := .later }
def FnExactUnitOfCardSaid : Prop := Claim7.holds Tryd.pinned (.plain (OpenSpec.ofChange fnExactUnitOfSpec)) fnExactUnitOfCard

/-- THE TIED CARD OF 'laws.FnExactPlainLine'. -/
def fnExactPlainLineCard : Claim7 := { stood := { row := fnExactPlainLineRow, standIns := [], harness := (true, "08c4a189e8f061e4fcd469b7030cb2ca33ecfa8549015912925158e334c64226"), looks := false }, kinds := [], alts := [], laidByText := true, laidKinds := [.data, .pinned], laidTests := true, laidLooks := .later }
def FnExactPlainLineCardSaid : Prop := Claim7.holds Tryd.pinned (.plain (OpenSpec.ofChange fnExactPlainLineSpec)) fnExactPlainLineCard

/-- THE TIED CARD OF 'laws.FnExactReadLine'. -/
def fnExactReadLineCard : Claim7 := { stood := { row := fnExactReadLineRow, standIns := [], harness := (true, "08c4a189e8f061e4fcd469b7030cb2ca33ecfa8549015912925158e334c64226"), looks := false }, kinds := [], alts := [], laidByText := true, laidKinds := [.data, .pinned], laidTests := true, laidLooks := .later }
def FnExactReadLineCardSaid : Prop := Claim7.holds Tryd.pinned (.plain (OpenSpec.ofChange fnExactReadLineSpec)) fnExactReadLineCard

/-- THE TIED CARD OF 'laws.FnExactOnAtOnce'. -/
def fnExactOnAtOnceCard : Claim7 := { stood := { row := fnExactOnAtOnceRow, standIns := [], harness := (true, "08c4a189e8f061e4fcd469b7030cb2ca33ecfa8549015912925158e334c64226"), looks := false }, kinds := [], alts := [], laidByText := true, laidKinds := [.data, .pinned], laidTests := true, laidLooks := .later }
def FnExactOnAtOnceCardSaid : Prop := Claim7.holds Tryd.pinned (.plain (OpenSpec.ofChange fnExactOnAtOnceSpec)) fnExactOnAtOnceCard

/-- THE SECOND FORM's CARD OF 'laws.FnExactIsLine'. -/
def fnExactIsLineUptoCard : Claim7 := { stood := { row := fnExactIsLineUptoRow, standIns := [], harness := (true, "08c4a189e8f061e4fcd469b7030cb2ca33ecfa8549015912925158e334c64226"), looks := false }, kinds := [], alts := [], laidByText := true, laidKinds := [.data, .pinned], laidTests := true, laidLooks := .later }
def FnExactIsLineUptoCardSaid : Prop := Claim7.holds Tryd.pinned (.plain (OpenSpec.upto fnExactIsLineSpec)) fnExactIsLineUptoCard

/-- THE SECOND FORM's CARD OF 'laws.FnExactSignalOf'. -/
def fnExactSignalOfUptoCard : Claim7 := { stood := { row := fnExactSignalOfUptoRow, standIns := [], harness := (true, "08c4a189e8f061e4fcd469b7030cb2ca33ecfa8549015912925158e334c64226"), looks := false }, kinds := [], alts := [], laidByText := true, laidKinds := [.data, .pinned], laidTests := true, laidLooks := .later }
def FnExactSignalOfUptoCardSaid : Prop := Claim7.holds Tryd.pinned (.plain (OpenSpec.upto fnExactSignalOfSpec)) fnExactSignalOfUptoCard

/-- THE SECOND FORM's CARD OF 'laws.FnExactRunsOf'. -/
def fnExactRunsOfUptoCard : Claim7 := { stood := { row := fnExactRunsOfUptoRow, standIns := [], harness := (true, "08c4a189e8f061e4fcd469b7030cb2ca33ecfa8549015912925158e334c64226"), looks := false }, kinds := [], alts := [], laidByText := true, laidKinds := [.data, .pinned], laidTests := true, laidLooks := .later }
def FnExactRunsOfUptoCardSaid : Prop := Claim7.holds Tryd.pinned (.plain (OpenSpec.upto fnExactRunsOfSpec)) fnExactRunsOfUptoCard

/-- THE SECOND FORM's CARD OF 'laws.FnExactCountOn'. -/
def fnExactCountOnUptoCard : Claim7 := { stood := { row := fnExactCountOnUptoRow, standIns := [], harness := (true, "08c4a189e8f061e4fcd469b7030cb2ca33ecfa8549015912925158e334c64226"), looks := false }, kinds := [], alts := [], laidByText := true, laidKinds := [.data, .pinned], laidTests := true, laidLooks := .later }
def FnExactCountOnUptoCardSaid : Prop := Claim7.holds Tryd.pinned (.plain (OpenSpec.upto fnExactCountOnSpec)) fnExactCountOnUptoCard

/-- THE SECOND FORM's CARD OF 'laws.FnExactDelayLine'. -/
def fnExactDelayLineUptoCard : Claim7 := { stood := { row := fnExactDelayLineUptoRow, standIns := [], harness := (true, "08c4a189e8f061e4fcd469b7030cb2ca33ecfa8549015912925158e334c64226"), looks := false }, kinds := [], alts := [], laidByText := true, laidKinds := [.data, .pinned], laidTests := true, laidLooks := .later }
def FnExactDelayLineUptoCardSaid : Prop := Claim7.holds Tryd.pinned (.plain (OpenSpec.upto fnExactDelayLineSpec)) fnExactDelayLineUptoCard

/-- THE SECOND FORM's CARD OF 'laws.FnExactJoinLines'. -/
def fnExactJoinLinesUptoCard : Claim7 := { stood := { row := fnExactJoinLinesUptoRow, standIns := [], harness := (true, "08c4a189e8f061e4fcd469b7030cb2ca33ecfa8549015912925158e334c64226"), looks := false }, kinds := [], alts := [], laidByText := true, laidKinds := [.data, .pinned], laidTests := true, laidLooks := .later }
def FnExactJoinLinesUptoCardSaid : Prop := Claim7.holds Tryd.pinned (.plain (OpenSpec.upto fnExactJoinLinesSpec)) fnExactJoinLinesUptoCard

/-- THE SECOND FORM's CARD OF 'laws.FnExactClashOf'. -/
def fnExactClashOfUptoCard : Claim7 := { stood := { row := fnExactClashOfUptoRow, standIns := [], harness := (true, "08c4a189e8f061e4fcd469b7030cb2ca33ecfa8549015912925158e334c64226"), looks := false }, kinds := [], alts := [], laidByText := true, laidKinds := [.data, .pinned], laidTests := true, laidLooks := .later }
def FnExactClashOfUptoCardSaid : Prop := Claim7.holds Tryd.pinned (.plain (OpenSpec.upto fnExactClashOfSpec)) fnExactClashOfUptoCard

/-- THE SECOND FORM's CARD OF 'laws.FnExactLeastDelay'. -/
def fnExactLeastDelayUptoCard : Claim7 := { stood := { row := fnExactLeastDelayUptoRow, standIns := [], harness := (true, "08c4a189e8f061e4fcd469b7030cb2ca33ecfa8549015912925158e334c64226"), looks := false }, kinds := [], alts := [], laidByText := true, laidKinds := [.data, .pinned], laidTests := true, laidLooks := .later }
def FnExactLeastDelayUptoCardSaid : Prop := Claim7.holds Tryd.pinned (.plain (OpenSpec.upto fnExactLeastDelaySpec)) fnExactLeastDelayUptoCard

/-- THE SECOND FORM's CARD OF 'laws.FnExactStretchLine'. -/
def fnExactStretchLineUptoCard : Claim7 := { stood := { row := fnExactStretchLineUptoRow, standIns := [], harness := (true, "08c4a189e8f061e4fcd469b7030cb2ca33ecfa8549015912925158e334c64226"), looks := false }, kinds := [], alts := [], laidByText := true, laidKinds := [.data, .pinned], laidTests := true, laidLooks := .later }
def FnExactStretchLineUptoCardSaid : Prop := Claim7.holds Tryd.pinned (.plain (OpenSpec.upto fnExactStretchLineSpec)) fnExactStretchLineUptoCard

/-- THE SECOND FORM's CARD OF 'laws.FnExactUnitOf'. -/
def fnExactUnitOfUptoCard : Claim7 := { stood := { row := fnExactUnitOfUptoRow, standIns := [], harness := (true, "08c4a189e8f061e4fcd469b7030cb2ca33ecfa8549015912925158e334c64226"), looks := false }, kinds := [], alts := [], laidByText := true, laidKinds := [.data, .pinned], laidTests := true, laidLooks := .later }
def FnExactUnitOfUptoCardSaid : Prop := Claim7.holds Tryd.pinned (.plain (OpenSpec.upto fnExactUnitOfSpec)) fnExactUnitOfUptoCard

/-- THE SECOND FORM's CARD OF 'laws.FnExactPlainLine'. -/
def fnExactPlainLineUptoCard : Claim7 := { stood := { row := fnExactPlainLineUptoRow, standIns := [], harness := (true, "08c4a189e8f061e4fcd469b7030cb2ca33ecfa8549015912925158e334c64226"), looks := false }, kinds := [], alts := [], laidByText := true, laidKinds := [.data, .pinned], laidTests := true, laidLooks := .later }
def FnExactPlainLineUptoCardSaid : Prop := Claim7.holds Tryd.pinned (.plain (OpenSpec.upto fnExactPlainLineSpec)) fnExactPlainLineUptoCard

/-- THE SECOND FORM's CARD OF 'laws.FnExactReadLine'. -/
def fnExactReadLineUptoCard : Claim7 := { stood := { row := fnExactReadLineUptoRow, standIns := [], harness := (true, "08c4a189e8f061e4fcd469b7030cb2ca33ecfa8549015912925158e334c64226"), looks := false }, kinds := [], alts := [], laidByText := true, laidKinds := [.data, .pinned], laidTests := true, laidLooks := .later }
def FnExactReadLineUptoCardSaid : Prop := Claim7.holds Tryd.pinned (.plain (OpenSpec.upto fnExactReadLineSpec)) fnExactReadLineUptoCard

/-- THE SECOND FORM's CARD OF 'laws.FnExactOnAtOnce'. -/
def fnExactOnAtOnceUptoCard : Claim7 := { stood := { row := fnExactOnAtOnceUptoRow, standIns := [], harness := (true, "08c4a189e8f061e4fcd469b7030cb2ca33ecfa8549015912925158e334c64226"), looks := false }, kinds := [], alts := [], laidByText := true, laidKinds := [.data, .pinned], laidTests := true, laidLooks := .later }
def FnExactOnAtOnceUptoCardSaid : Prop := Claim7.holds Tryd.pinned (.plain (OpenSpec.upto fnExactOnAtOnceSpec)) fnExactOnAtOnceUptoCard
end Rows
end Go.Proofs.YtijhfmjkiijhiaaDoor
