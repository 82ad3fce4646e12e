/-
  NARROWER THAN 'FOR EVERY INPUT', by the rows' own cells (each row's printed sentence says how): FnExactIsLine: laid · FnExactSignalOf: laid · FnExactRunsOf: laid · FnExactCountOn: laid · FnExactDelayLine: laid · FnExactJoinLines: laid · FnExactClashOf: laid · FnExactLeastDelay: laid · FnExactStretchLine: laid · FnExactUnitOf: laid · FnExactPlainLine: laid · FnExactReadLine: laid · FnExactOnAtOnce: laid.
  DERIVED. THE GIVEN ROWS OF THIS SEAT. 13 by the template 'for every input the law returns true; each argument reads behind the call as it read before'; 0 by the template 'total and deterministic' (their statements: YtijhfmjkiijhiaaDoorTotals.lean).
  GIVEN WITH THE SEED: the statements are not yours to turn. If you find one false, say at which input.
  Laid BY PROGRAM, IN A SANDBOX (cutbox-rows.mjs): the forced cells as the released guide's own fill.sh prints them over the translation b62537956096ea67… (all of the seat's roots in one cut). By AI agents, Wed Nov 11 2026. No macro, syntax, notation, axiom, sorry.
-/
import Derived.Test.YtijhfmjkiijhiaaDoorChecked
import GoSem.PinnedTables
import GoSem.Claim
import GoSem.ClaimJoined
import GoSem.ClaimMapViews
import Derived.JoinedTies
import Derived.KernelRfl
namespace Go.Proofs.YtijhfmjkiijhiaaDoor
/- THE CELL 'sum', in the pinned program and in every row, IS THE sha256 OF THE DUMP (.gsa) THAT YtijhfmjkiijhiaaDoorProg.lean LOADS. Nothing in Lean hashes anything: it is a label: what it is worth is what the hold of that sum in a sandbox is worth. -/
noncomputable def Tryd.pinned : Pinned := { name := "ytijhfmjkiijhiaadoor", sum := "b62537956096ea676325b2538a2c1428c33921f438b01cc089d03d5facb119bf", checked := Tryd.checked }
namespace Rows
def none {H : Type} : Left H := { results := [], args := [] }

/- WHAT THE LISTED PACKAGE-LEVEL VARIABLES READ AS WHEN THE CALL BEGINS. Each datum BY PROGRAM (the guide's laid-datum.mjs) off the statement by which the dump's own 'gosem.cut.vars' lays the variable. In a bare row this is a premise. The card (YtijhfmjkiijhiaaDoorCards.lean) ties it to the program's text. -/
def laid_unicode_utf8_acceptRanges {H : Type} : DataW H := .agg [.agg [.lit (.int .u8 128), .lit (.int .u8 191)], .agg [.lit (.int .u8 160), .lit (.int .u8 191)], .agg [.lit (.int .u8 128), .lit (.int .u8 159)], .agg [.lit (.int .u8 144), .lit (.int .u8 191)], .agg [.lit (.int .u8 128), .lit (.int .u8 143)], .agg [.lit (.int .u8 0), .lit (.int .u8 0)], .agg [.lit (.int .u8 0), .lit (.int .u8 0)], .agg [.lit (.int .u8 0), .lit (.int .u8 0)], .agg [.lit (.int .u8 0), .lit (.int .u8 0)], .agg [.lit (.int .u8 0), .lit (.int .u8 0)], .agg [.lit (.int .u8 0), .lit (.int .u8 0)], .agg [.lit (.int .u8 0), .lit (.int .u8 0)], .agg [.lit (.int .u8 0), .lit (.int .u8 0)], .agg [.lit (.int .u8 0), .lit (.int .u8 0)], .agg [.lit (.int .u8 0), .lit (.int .u8 0)], .agg [.lit (.int .u8 0), .lit (.int .u8 0)]]
/-- One of Go's own tables, pinned by name: the form's constant. -/
def laid_unicode_utf8_first : DataW Unit := Go.Pinned.utf8First

/-- 'laws.FnExactIsLine': WHATEVER THE INPUT: true; the input reads as it did. -/
def fnExactIsLineSpec : ChangeSpec := { name := "fnExactIsLine", fn := fun _ => fun
  | [d] => { results := [.lit (.bool true)], args := [d] }
  | _ => none }
def fnExactIsLineRow : OpenClaim := { program := "ytijhfmjkiijhiaadoor", sum := "b62537956096ea676325b2538a2c1428c33921f438b01cc089d03d5facb119bf", func := "loop.example/g01248/laws.FnExactIsLine", spec := "fnExactIsLine", inPlace := ["internal/bytealg.IndexByteString", "internal/bytealg.IndexString"], named := ["unicode/utf8.first", "unicode/utf8.acceptRanges", "internal/bytealg.MaxLen"], apart := false, laid := [("unicode/utf8.acceptRanges", laid_unicode_utf8_acceptRanges), ("unicode/utf8.first", laid_unicode_utf8_first)] }
def FnExactIsLineSaid : Prop := fnExactIsLineRow.holds Tryd.pinned (OpenSpec.ofChange fnExactIsLineSpec)

/-- ITS FALSE NEIGHBOUR: 'it returns false'. Refute it at one input. -/
def fnExactIsLineWrong : ChangeSpec := { name := "fnExactIsLine", fn := fun _ => fun
  | [d] => { results := [.lit (.bool false)], args := [d] }
  | _ => none }
def FnExactIsLineWrongFalsely : Prop := fnExactIsLineRow.holds Tryd.pinned (OpenSpec.ofChange fnExactIsLineWrong)

/-- 'laws.FnExactSignalOf': WHATEVER THE INPUT: true; the input reads as it did. -/
def fnExactSignalOfSpec : ChangeSpec := { name := "fnExactSignalOf", fn := fun _ => fun
  | [d] => { results := [.lit (.bool true)], args := [d] }
  | _ => none }
def fnExactSignalOfRow : OpenClaim := { program := "ytijhfmjkiijhiaadoor", sum := "b62537956096ea676325b2538a2c1428c33921f438b01cc089d03d5facb119bf", func := "loop.example/g01248/laws.FnExactSignalOf", spec := "fnExactSignalOf", inPlace := ["internal/bytealg.IndexByteString", "internal/bytealg.IndexString", "internal/abi.NoEscape", "internal/bytealg.MakeNoZero"], named := ["unicode/utf8.first", "unicode/utf8.acceptRanges", "internal/bytealg.MaxLen"], apart := false, laid := [("unicode/utf8.acceptRanges", laid_unicode_utf8_acceptRanges), ("unicode/utf8.first", laid_unicode_utf8_first)] }
def FnExactSignalOfSaid : Prop := fnExactSignalOfRow.holds Tryd.pinned (OpenSpec.ofChange fnExactSignalOfSpec)

/-- ITS FALSE NEIGHBOUR: 'it returns false'. Refute it at one input. -/
def fnExactSignalOfWrong : ChangeSpec := { name := "fnExactSignalOf", fn := fun _ => fun
  | [d] => { results := [.lit (.bool false)], args := [d] }
  | _ => none }
def FnExactSignalOfWrongFalsely : Prop := fnExactSignalOfRow.holds Tryd.pinned (OpenSpec.ofChange fnExactSignalOfWrong)

/-- 'laws.FnExactRunsOf': WHATEVER THE INPUT: true; the input reads as it did. -/
def fnExactRunsOfSpec : ChangeSpec := { name := "fnExactRunsOf", fn := fun _ => fun
  | [d] => { results := [.lit (.bool true)], args := [d] }
  | _ => none }
def fnExactRunsOfRow : OpenClaim := { program := "ytijhfmjkiijhiaadoor", sum := "b62537956096ea676325b2538a2c1428c33921f438b01cc089d03d5facb119bf", func := "loop.example/g01248/laws.FnExactRunsOf", spec := "fnExactRunsOf", inPlace := ["internal/bytealg.IndexByteString", "internal/bytealg.IndexString"], named := ["unicode/utf8.first", "unicode/utf8.acceptRanges", "internal/bytealg.MaxLen"], apart := false, laid := [("unicode/utf8.acceptRanges", laid_unicode_utf8_acceptRanges), ("unicode/utf8.first", laid_unicode_utf8_first)] }
def FnExactRunsOfSaid : Prop := fnExactRunsOfRow.holds Tryd.pinned (OpenSpec.ofChange fnExactRunsOfSpec)

/-- ITS FALSE NEIGHBOUR: 'it returns false'. Refute it at one input. -/
def fnExactRunsOfWrong : ChangeSpec := { name := "fnExactRunsOf", fn := fun _ => fun
  | [d] => { results := [.lit (.bool false)], args := [d] }
  | _ => none }
def FnExactRunsOfWrongFalsely : Prop := fnExactRunsOfRow.holds Tryd.pinned (OpenSpec.ofChange fnExactRunsOfWrong)

/-- 'laws.FnExactCountOn': WHATEVER THE INPUT: true; the input reads as it did. -/
def fnExactCountOnSpec : ChangeSpec := { name := "fnExactCountOn", fn := fun _ => fun
  | [d] => { results := [.lit (.bool true)], args := [d] }
  | _ => none }
def fnExactCountOnRow : OpenClaim := { program := "ytijhfmjkiijhiaadoor", sum := "b62537956096ea676325b2538a2c1428c33921f438b01cc089d03d5facb119bf", func := "loop.example/g01248/laws.FnExactCountOn", spec := "fnExactCountOn", inPlace := ["internal/bytealg.IndexByteString", "internal/bytealg.IndexString", "internal/bytealg.CountString"], named := ["unicode/utf8.first", "unicode/utf8.acceptRanges", "internal/bytealg.MaxLen"], apart := false, laid := [("unicode/utf8.acceptRanges", laid_unicode_utf8_acceptRanges), ("unicode/utf8.first", laid_unicode_utf8_first)] }
def FnExactCountOnSaid : Prop := fnExactCountOnRow.holds Tryd.pinned (OpenSpec.ofChange fnExactCountOnSpec)

/-- ITS FALSE NEIGHBOUR: 'it returns false'. Refute it at one input. -/
def fnExactCountOnWrong : ChangeSpec := { name := "fnExactCountOn", fn := fun _ => fun
  | [d] => { results := [.lit (.bool false)], args := [d] }
  | _ => none }
def FnExactCountOnWrongFalsely : Prop := fnExactCountOnRow.holds Tryd.pinned (OpenSpec.ofChange fnExactCountOnWrong)

/-- 'laws.FnExactDelayLine': WHATEVER THE INPUT: true; the input reads as it did. -/
def fnExactDelayLineSpec : ChangeSpec := { name := "fnExactDelayLine", fn := fun _ => fun
  | [d1, d2] => { results := [.lit (.bool true)], args := [d1, d2] }
  | _ => none }
def fnExactDelayLineRow : OpenClaim := { program := "ytijhfmjkiijhiaadoor", sum := "b62537956096ea676325b2538a2c1428c33921f438b01cc089d03d5facb119bf", func := "loop.example/g01248/laws.FnExactDelayLine", spec := "fnExactDelayLine", inPlace := ["internal/bytealg.IndexByteString", "internal/bytealg.IndexString", "internal/abi.NoEscape", "internal/bytealg.MakeNoZero"], named := ["unicode/utf8.first", "unicode/utf8.acceptRanges", "internal/bytealg.MaxLen"], apart := false, laid := [("unicode/utf8.acceptRanges", laid_unicode_utf8_acceptRanges), ("unicode/utf8.first", laid_unicode_utf8_first)] }
def FnExactDelayLineSaid : Prop := fnExactDelayLineRow.holds Tryd.pinned (OpenSpec.ofChange fnExactDelayLineSpec)

/-- ITS FALSE NEIGHBOUR: 'it returns false'. Refute it at one input. -/
def fnExactDelayLineWrong : ChangeSpec := { name := "fnExactDelayLine", fn := fun _ => fun
  | [d1, d2] => { results := [.lit (.bool false)], args := [d1, d2] }
  | _ => none }
def FnExactDelayLineWrongFalsely : Prop := fnExactDelayLineRow.holds Tryd.pinned (OpenSpec.ofChange fnExactDelayLineWrong)

/-- 'laws.FnExactJoinLines': WHATEVER THE INPUT: true; the input reads as it did. -/
def fnExactJoinLinesSpec : ChangeSpec := { name := "fnExactJoinLines", fn := fun _ => fun
  | [d1, d2] => { results := [.lit (.bool true)], args := [d1, d2] }
  | _ => none }
def fnExactJoinLinesRow : OpenClaim := { program := "ytijhfmjkiijhiaadoor", sum := "b62537956096ea676325b2538a2c1428c33921f438b01cc089d03d5facb119bf", func := "loop.example/g01248/laws.FnExactJoinLines", spec := "fnExactJoinLines", inPlace := ["internal/bytealg.IndexByteString", "internal/bytealg.IndexString"], named := ["unicode/utf8.first", "unicode/utf8.acceptRanges", "internal/bytealg.MaxLen"], apart := false, laid := [("unicode/utf8.acceptRanges", laid_unicode_utf8_acceptRanges), ("unicode/utf8.first", laid_unicode_utf8_first)] }
def FnExactJoinLinesSaid : Prop := fnExactJoinLinesRow.holds Tryd.pinned (OpenSpec.ofChange fnExactJoinLinesSpec)

/-- ITS FALSE NEIGHBOUR: 'it returns false'. Refute it at one input. -/
def fnExactJoinLinesWrong : ChangeSpec := { name := "fnExactJoinLines", fn := fun _ => fun
  | [d1, d2] => { results := [.lit (.bool false)], args := [d1, d2] }
  | _ => none }
def FnExactJoinLinesWrongFalsely : Prop := fnExactJoinLinesRow.holds Tryd.pinned (OpenSpec.ofChange fnExactJoinLinesWrong)

/-- 'laws.FnExactClashOf': WHATEVER THE INPUT: true; the input reads as it did. -/
def fnExactClashOfSpec : ChangeSpec := { name := "fnExactClashOf", fn := fun _ => fun
  | [d1, d2] => { results := [.lit (.bool true)], args := [d1, d2] }
  | _ => none }
def fnExactClashOfRow : OpenClaim := { program := "ytijhfmjkiijhiaadoor", sum := "b62537956096ea676325b2538a2c1428c33921f438b01cc089d03d5facb119bf", func := "loop.example/g01248/laws.FnExactClashOf", spec := "fnExactClashOf", inPlace := ["internal/bytealg.IndexByteString", "internal/bytealg.IndexString"], named := ["unicode/utf8.first", "unicode/utf8.acceptRanges", "internal/bytealg.MaxLen"], apart := false, laid := [("unicode/utf8.acceptRanges", laid_unicode_utf8_acceptRanges), ("unicode/utf8.first", laid_unicode_utf8_first)] }
def FnExactClashOfSaid : Prop := fnExactClashOfRow.holds Tryd.pinned (OpenSpec.ofChange fnExactClashOfSpec)

/-- ITS FALSE NEIGHBOUR: 'it returns false'. Refute it at one input. -/
def fnExactClashOfWrong : ChangeSpec := { name := "fnExactClashOf", fn := fun _ => fun
  | [d1, d2] => { results := [.lit (.bool false)], args := [d1, d2] }
  | _ => none }
def FnExactClashOfWrongFalsely : Prop := fnExactClashOfRow.holds Tryd.pinned (OpenSpec.ofChange fnExactClashOfWrong)

/-- 'laws.FnExactLeastDelay': WHATEVER THE INPUT: true; the input reads as it did. -/
def fnExactLeastDelaySpec : ChangeSpec := { name := "fnExactLeastDelay", fn := fun _ => fun
  | [d1, d2] => { results := [.lit (.bool true)], args := [d1, d2] }
  | _ => none }
def fnExactLeastDelayRow : OpenClaim := { program := "ytijhfmjkiijhiaadoor", sum := "b62537956096ea676325b2538a2c1428c33921f438b01cc089d03d5facb119bf", func := "loop.example/g01248/laws.FnExactLeastDelay", spec := "fnExactLeastDelay", inPlace := ["internal/bytealg.IndexByteString", "internal/bytealg.IndexString"], named := ["unicode/utf8.first", "unicode/utf8.acceptRanges", "internal/bytealg.MaxLen"], apart := false, laid := [("unicode/utf8.acceptRanges", laid_unicode_utf8_acceptRanges), ("unicode/utf8.first", laid_unicode_utf8_first)] }
def FnExactLeastDelaySaid : Prop := fnExactLeastDelayRow.holds Tryd.pinned (OpenSpec.ofChange fnExactLeastDelaySpec)

/-- ITS FALSE NEIGHBOUR: 'it returns false'. Refute it at one input. -/
def fnExactLeastDelayWrong : ChangeSpec := { name := "fnExactLeastDelay", fn := fun _ => fun
  | [d1, d2] => { results := [.lit (.bool false)], args := [d1, d2] }
  | _ => none }
def FnExactLeastDelayWrongFalsely : Prop := fnExactLeastDelayRow.holds Tryd.pinned (OpenSpec.ofChange fnExactLeastDelayWrong)

/-- 'laws.FnExactStretchLine': WHATEVER THE INPUT: true; the input reads as it did. -/
def fnExactStretchLineSpec : ChangeSpec := { name := "fnExactStretchLine", fn := fun _ => fun
  | [d1, d2] => { results := [.lit (.bool true)], args := [d1, d2] }
  | _ => none }
def fnExactStretchLineRow : OpenClaim := { program := "ytijhfmjkiijhiaadoor", sum := "b62537956096ea676325b2538a2c1428c33921f438b01cc089d03d5facb119bf", func := "loop.example/g01248/laws.FnExactStretchLine", spec := "fnExactStretchLine", inPlace := ["internal/bytealg.IndexByteString", "internal/bytealg.IndexString", "internal/abi.NoEscape", "internal/bytealg.MakeNoZero"], named := ["unicode/utf8.first", "unicode/utf8.acceptRanges", "internal/bytealg.MaxLen"], apart := false, laid := [("unicode/utf8.acceptRanges", laid_unicode_utf8_acceptRanges), ("unicode/utf8.first", laid_unicode_utf8_first)] }
def FnExactStretchLineSaid : Prop := fnExactStretchLineRow.holds Tryd.pinned (OpenSpec.ofChange fnExactStretchLineSpec)

/-- ITS FALSE NEIGHBOUR: 'it returns false'. Refute it at one input. -/
def fnExactStretchLineWrong : ChangeSpec := { name := "fnExactStretchLine", fn := fun _ => fun
  | [d1, d2] => { results := [.lit (.bool false)], args := [d1, d2] }
  | _ => none }
def FnExactStretchLineWrongFalsely : Prop := fnExactStretchLineRow.holds Tryd.pinned (OpenSpec.ofChange fnExactStretchLineWrong)

/-- 'laws.FnExactUnitOf': WHATEVER THE INPUT: true; the input reads as it did. -/
def fnExactUnitOfSpec : ChangeSpec := { name := "fnExactUnitOf", fn := fun _ => fun
  | [d] => { results := [.lit (.bool true)], args := [d] }
  | _ => none }
def fnExactUnitOfRow : OpenClaim := { program := "ytijhfmjkiijhiaadoor", sum := "b62537956096ea676325b2538a2c1428c33921f438b01cc089d03d5facb119bf", func := "loop.example/g01248/laws.FnExactUnitOf", spec := "fnExactUnitOf", inPlace := ["internal/bytealg.IndexByteString", "internal/bytealg.IndexString"], named := ["unicode/utf8.first", "unicode/utf8.acceptRanges", "internal/bytealg.MaxLen"], apart := false, laid := [("unicode/utf8.acceptRanges", laid_unicode_utf8_acceptRanges), ("unicode/utf8.first", laid_unicode_utf8_first)] }
def FnExactUnitOfSaid : Prop := fnExactUnitOfRow.holds Tryd.pinned (OpenSpec.ofChange fnExactUnitOfSpec)

/-- ITS FALSE NEIGHBOUR: 'it returns false'. Refute it at one input. -/
def fnExactUnitOfWrong : ChangeSpec := { name := "fnExactUnitOf", fn := fun _ => fun
  | [d] => { results := [.lit (.bool false)], args := [d] }
  | _ => none }
def FnExactUnitOfWrongFalsely : Prop := fnExactUnitOfRow.holds Tryd.pinned (OpenSpec.ofChange fnExactUnitOfWrong)

/-- 'laws.FnExactPlainLine': WHATEVER THE INPUT: true; the input reads as it did. -/
def fnExactPlainLineSpec : ChangeSpec := { name := "fnExactPlainLine", fn := fun _ => fun
  | [d] => { results := [.lit (.bool true)], args := [d] }
  | _ => none }
def fnExactPlainLineRow : OpenClaim := { program := "ytijhfmjkiijhiaadoor", sum := "b62537956096ea676325b2538a2c1428c33921f438b01cc089d03d5facb119bf", func := "loop.example/g01248/laws.FnExactPlainLine", spec := "fnExactPlainLine", inPlace := ["internal/bytealg.IndexByteString", "internal/bytealg.IndexString"], named := ["unicode/utf8.first", "unicode/utf8.acceptRanges", "internal/bytealg.MaxLen"], apart := false, laid := [("unicode/utf8.acceptRanges", laid_unicode_utf8_acceptRanges), ("unicode/utf8.first", laid_unicode_utf8_first)] }
def FnExactPlainLineSaid : Prop := fnExactPlainLineRow.holds Tryd.pinned (OpenSpec.ofChange fnExactPlainLineSpec)

/-- ITS FALSE NEIGHBOUR: 'it returns false'. Refute it at one input. -/
def fnExactPlainLineWrong : ChangeSpec := { name := "fnExactPlainLine", fn := fun _ => fun
  | [d] => { results := [.lit (.bool false)], args := [d] }
  | _ => none }
def FnExactPlainLineWrongFalsely : Prop := fnExactPlainLineRow.holds Tryd.pinned (OpenSpec.ofChange fnExactPlainLineWrong)

/-- 'laws.FnExactReadLine': WHATEVER THE INPUT: true; the input reads as it did. -/
def fnExactReadLineSpec : ChangeSpec := { name := "fnExactReadLine", fn := fun _ => fun
  | [d] => { results := [.lit (.bool true)], args := [d] }
  | _ => none }
def fnExactReadLineRow : OpenClaim := { program := "ytijhfmjkiijhiaadoor", sum := "b62537956096ea676325b2538a2c1428c33921f438b01cc089d03d5facb119bf", func := "loop.example/g01248/laws.FnExactReadLine", spec := "fnExactReadLine", inPlace := ["internal/bytealg.IndexByteString", "internal/bytealg.IndexString", "internal/abi.NoEscape", "internal/bytealg.MakeNoZero"], named := ["unicode/utf8.first", "unicode/utf8.acceptRanges", "internal/bytealg.MaxLen"], apart := false, laid := [("unicode/utf8.acceptRanges", laid_unicode_utf8_acceptRanges), ("unicode/utf8.first", laid_unicode_utf8_first)] }
def FnExactReadLineSaid : Prop := fnExactReadLineRow.holds Tryd.pinned (OpenSpec.ofChange fnExactReadLineSpec)

/-- ITS FALSE NEIGHBOUR: 'it returns false'. Refute it at one input. -/
def fnExactReadLineWrong : ChangeSpec := { name := "fnExactReadLine", fn := fun _ => fun
  | [d] => { results := [.lit (.bool false)], args := [d] }
  | _ => none }
def FnExactReadLineWrongFalsely : Prop := fnExactReadLineRow.holds Tryd.pinned (OpenSpec.ofChange fnExactReadLineWrong)

/-- 'laws.FnExactOnAtOnce': WHATEVER THE INPUT: true; the input reads as it did. -/
def fnExactOnAtOnceSpec : ChangeSpec := { name := "fnExactOnAtOnce", fn := fun _ => fun
  | [d] => { results := [.lit (.bool true)], args := [d] }
  | _ => none }
def fnExactOnAtOnceRow : OpenClaim := { program := "ytijhfmjkiijhiaadoor", sum := "b62537956096ea676325b2538a2c1428c33921f438b01cc089d03d5facb119bf", func := "loop.example/g01248/laws.FnExactOnAtOnce", spec := "fnExactOnAtOnce", inPlace := ["internal/bytealg.IndexByteString", "internal/bytealg.IndexString"], named := ["unicode/utf8.first", "unicode/utf8.acceptRanges", "internal/bytealg.MaxLen"], apart := false, laid := [("unicode/utf8.acceptRanges", laid_unicode_utf8_acceptRanges), ("unicode/utf8.first", laid_unicode_utf8_first)] }
def FnExactOnAtOnceSaid : Prop := fnExactOnAtOnceRow.holds Tryd.pinned (OpenSpec.ofChange fnExactOnAtOnceSpec)

/-- ITS FALSE NEIGHBOUR: 'it returns false'. Refute it at one input. -/
def fnExactOnAtOnceWrong : ChangeSpec := { name := "fnExactOnAtOnce", fn := fun _ => fun
  | [d] => { results := [.lit (.bool false)], args := [d] }
  | _ => none }
def FnExactOnAtOnceWrongFalsely : Prop := fnExactOnAtOnceRow.holds Tryd.pinned (OpenSpec.ofChange fnExactOnAtOnceWrong)

/- THE SECOND FORM. 'bulk': how many values and letters a reading holds, each counted each time it is reached (what is shared counts as often as it is met; a slice's spare places count too). A statement '..UptoSaid' is the law's where the arguments, and the package variables that the reading takes, are together of bulk at most 1048576: NARROWER than '..Said'. Prove '..Said' where nothing that the law and all that it calls make is longer than what came in: it says more and counts as full. Else prove '..UptoSaid'. A law counts once. -/
mutual
def uptoBulk {H : Type} : DataW H → Nat
  | .lit (.string bytes) => bytes.length + 1
  | .lit _ => 1
  | .nil => 1
  | .ptr d => uptoBulk d + 1
  | .slice elems spare => uptoBulkAll elems + uptoBulkAll spare + 1
  | .agg parts => uptoBulkAll parts + 1
  | .iface _ d => uptoBulk d + 1
  | .map entries => uptoBulkEntries entries + 1
  | .held _ => 1
def uptoBulkAll {H : Type} : List (DataW H) → Nat
  | [] => 0
  | d :: r => uptoBulk d + uptoBulkAll r
def uptoBulkEntries {H : Type} : List (Lit × DataW H) → Nat
  | [] => 0
  | x :: r => uptoBulkEntry x + uptoBulkEntries r
def uptoBulkEntry {H : Type} : Lit × DataW H → Nat
  | (.string bytes, d) => bytes.length + uptoBulk d + 1
  | (_, d) => uptoBulk d + 1
 end
def uptoSmall : (H : Type) → List (DataW H) → Bool := fun _ ds => decide (uptoBulkAll ds ≤ 1048576)
def OpenSpec.upto (s : _root_.Go.ChangeSpec) : _root_.Go.OpenSpec := { _root_.Go.OpenSpec.ofChange s with cond := some uptoSmall }

/-- 'laws.FnExactIsLine', WHERE WHAT IT READS IS OF BULK AT MOST 1048576: true; the input reads as it did. -/
def fnExactIsLineUptoRow : OpenClaim := { program := "ytijhfmjkiijhiaadoor", sum := "b62537956096ea676325b2538a2c1428c33921f438b01cc089d03d5facb119bf", func := "loop.example/g01248/laws.FnExactIsLine", spec := "fnExactIsLine", inPlace := ["internal/bytealg.IndexByteString", "internal/bytealg.IndexString"], named := ["unicode/utf8.first", "unicode/utf8.acceptRanges", "internal/bytealg.MaxLen"], apart := false, laid := [("unicode/utf8.acceptRanges", laid_unicode_utf8_acceptRanges), ("unicode/utf8.first", laid_unicode_utf8_first)], narrowed := true }
def FnExactIsLineUptoSaid : Prop := fnExactIsLineUptoRow.holds Tryd.pinned (OpenSpec.upto fnExactIsLineSpec)

/-- 'laws.FnExactSignalOf', WHERE WHAT IT READS IS OF BULK AT MOST 1048576: true; the input reads as it did. -/
def fnExactSignalOfUptoRow : OpenClaim := { program := "ytijhfmjkiijhiaadoor", sum := "b62537956096ea676325b2538a2c1428c33921f438b01cc089d03d5facb119bf", func := "loop.example/g01248/laws.FnExactSignalOf", spec := "fnExactSignalOf", inPlace := ["internal/bytealg.IndexByteString", "internal/bytealg.IndexString", "internal/abi.NoEscape", "internal/bytealg.MakeNoZero"], named := ["unicode/utf8.first", "unicode/utf8.acceptRanges", "internal/bytealg.MaxLen"], apart := false, laid := [("unicode/utf8.acceptRanges", laid_unicode_utf8_acceptRanges), ("unicode/utf8.first", laid_unicode_utf8_first)], narrowed := true }
def FnExactSignalOfUptoSaid : Prop := fnExactSignalOfUptoRow.holds Tryd.pinned (OpenSpec.upto fnExactSignalOfSpec)

/-- 'laws.FnExactRunsOf', WHERE WHAT IT READS IS OF BULK AT MOST 1048576: true; the input reads as it did. -/
def fnExactRunsOfUptoRow : OpenClaim := { program := "ytijhfmjkiijhiaadoor", sum := "b62537956096ea676325b2538a2c1428c33921f438b01cc089d03d5facb119bf", func := "loop.example/g01248/laws.FnExactRunsOf", spec := "fnExactRunsOf", inPlace := ["internal/bytealg.IndexByteString", "internal/bytealg.IndexString"], named := ["unicode/utf8.first", "unicode/utf8.acceptRanges", "internal/bytealg.MaxLen"], apart := false, laid := [("unicode/utf8.acceptRanges", laid_unicode_utf8_acceptRanges), ("unicode/utf8.first", laid_unicode_utf8_first)], narrowed := true }
def FnExactRunsOfUptoSaid : Prop := fnExactRunsOfUptoRow.holds Tryd.pinned (OpenSpec.upto fnExactRunsOfSpec)

/-- 'laws.FnExactCountOn', WHERE WHAT IT READS IS OF BULK AT MOST 1048576: true; the input reads as it did. -/
def fnExactCountOnUptoRow : OpenClaim := { program := "ytijhfmjkiijhiaadoor", sum := "b62537956096ea676325b2538a2c1428c33921f438b01cc089d03d5facb119bf", func := "loop.example/g01248/laws.FnExactCountOn", spec := "fnExactCountOn", inPlace := ["internal/bytealg.IndexByteString", "internal/bytealg.IndexString", "internal/bytealg.CountString"], named := ["unicode/utf8.first", "unicode/utf8.acceptRanges", "internal/bytealg.MaxLen"], apart := false, laid := [("unicode/utf8.acceptRanges", laid_unicode_utf8_acceptRanges), ("unicode/utf8.first", laid_unicode_utf8_first)], narrowed := true }
def FnExactCountOnUptoSaid : Prop := fnExactCountOnUptoRow.holds Tryd.pinned (OpenSpec.upto fnExactCountOnSpec)

/-- 'laws.FnExactDelayLine', WHERE WHAT IT READS IS OF BULK AT MOST 1048576: true; the input reads as it did. -/
def fnExactDelayLineUptoRow : OpenClaim := { program := "ytijhfmjkiijhiaadoor", sum := "b62537956096ea676325b2538a2c1428c33921f438b01cc089d03d5facb119bf", func := "loop.example/g01248/laws.FnExactDelayLine", spec := "fnExactDelayLine", inPlace := ["internal/bytealg.IndexByteString", "internal/bytealg.IndexString", "internal/abi.NoEscape", "internal/bytealg.MakeNoZero"], named := ["unicode/utf8.first", "unicode/utf8.acceptRanges", "internal/bytealg.MaxLen"], apart := false, laid := [("unicode/utf8.acceptRanges", laid_unicode_utf8_acceptRanges), ("unicode/utf8.first", laid_unicode_utf8_first)], narrowed := true }
def FnExactDelayLineUptoSaid : Prop := fnExactDelayLineUptoRow.holds Tryd.pinned (OpenSpec.upto fnExactDelayLineSpec)

/-- 'laws.FnExactJoinLines', WHERE WHAT IT READS IS OF BULK AT MOST 1048576: true; the input reads as it did. -/
def fnExactJoinLinesUptoRow : OpenClaim := { program := "ytijhfmjkiijhiaadoor", sum := "b62537956096ea676325b2538a2c1428c33921f438b01cc089d03d5facb119bf", func := "loop.example/g01248/laws.FnExactJoinLines", spec := "fnExactJoinLines", inPlace := ["internal/bytealg.IndexByteString", "internal/bytealg.IndexString"], named := ["unicode/utf8.first", "unicode/utf8.acceptRanges", "internal/bytealg.MaxLen"], apart := false, laid := [("unicode/utf8.acceptRanges", laid_unicode_utf8_acceptRanges), ("unicode/utf8.first", laid_unicode_utf8_first)], narrowed := true }
def FnExactJoinLinesUptoSaid : Prop := fnExactJoinLinesUptoRow.holds Tryd.pinned (OpenSpec.upto fnExactJoinLinesSpec)

/-- 'laws.FnExactClashOf', WHERE WHAT IT READS IS OF BULK AT MOST 1048576: true; the input reads as it did. -/
def fnExactClashOfUptoRow : OpenClaim := { program := "ytijhfmjkiijhiaadoor", sum := "b62537956096ea676325b2538a2c1428c33921f438b01cc089d03d5facb119bf", func := "loop.example/g01248/laws.FnExactClashOf", spec := "fnExactClashOf", inPlace := ["internal/bytealg.IndexByteString", "internal/bytealg.IndexString"], named := ["unicode/utf8.first", "unicode/utf8.acceptRanges", "internal/bytealg.MaxLen"], apart := false, laid := [("unicode/utf8.acceptRanges", laid_unicode_utf8_acceptRanges), ("unicode/utf8.first", laid_unicode_utf8_first)], narrowed := true }
def FnExactClashOfUptoSaid : Prop := fnExactClashOfUptoRow.holds Tryd.pinned (OpenSpec.upto fnExactClashOfSpec)

/-- 'laws.FnExactLeastDelay', WHERE WHAT IT READS IS OF BULK AT MOST 1048576: true; the input reads as it did. -/
def fnExactLeastDelayUptoRow : OpenClaim := { program := "ytijhfmjkiijhiaadoor", sum := "b62537956096ea676325b2538a2c1428c33921f438b01cc089d03d5facb119bf", func := "loop.example/g01248/laws.FnExactLeastDelay", spec := "fnExactLeastDelay", inPlace := ["internal/bytealg.IndexByteString", "internal/bytealg.IndexString"], named := ["unicode/utf8.first", "unicode/utf8.acceptRanges", "internal/bytealg.MaxLen"], apart := false, laid := [("unicode/utf8.acceptRanges", laid_unicode_utf8_acceptRanges), ("unicode/utf8.first", laid_unicode_utf8_first)], narrowed := true }
def FnExactLeastDelayUptoSaid : Prop := fnExactLeastDelayUptoRow.holds Tryd.pinned (OpenSpec.upto fnExactLeastDelaySpec)

/-- 'laws.FnExactStretchLine', WHERE WHAT IT READS IS OF BULK AT MOST 1048576: true; the input reads as it did. -/
def fnExactStretchLineUptoRow : OpenClaim := { program := "ytijhfmjkiijhiaadoor", sum := "b62537956096ea676325b2538a2c1428c33921f438b01cc089d03d5facb119bf", func := "loop.example/g01248/laws.FnExactStretchLine", spec := "fnExactStretchLine", inPlace := ["internal/bytealg.IndexByteString", "internal/bytealg.IndexString", "internal/abi.NoEscape", "internal/bytealg.MakeNoZero"], named := ["unicode/utf8.first", "unicode/utf8.acceptRanges", "internal/bytealg.MaxLen"], apart := false, laid := [("unicode/utf8.acceptRanges", laid_unicode_utf8_acceptRanges), ("unicode/utf8.first", laid_unicode_utf8_first)], narrowed := true }
def FnExactStretchLineUptoSaid : Prop := fnExactStretchLineUptoRow.holds Tryd.pinned (OpenSpec.upto fnExactStretchLineSpec)

/-- 'laws.FnExactUnitOf', WHERE WHAT IT READS IS OF BULK AT MOST 1048576: true; the input reads as it did. -/
def fnExactUnitOfUptoRow : OpenClaim := { program := "ytijhfmjkiijhiaadoor", sum := "b62537956096ea676325b2538a2c1428c33921f438b01cc089d03d5facb119bf", func := "loop.example/g01248/laws.FnExactUnitOf", spec := "fnExactUnitOf", inPlace := ["internal/bytealg.IndexByteString", "internal/bytealg.IndexString"], named := ["unicode/utf8.first", "unicode/utf8.acceptRanges", "internal/bytealg.MaxLen"], apart := false, laid := [("unicode/utf8.acceptRanges", laid_unicode_utf8_acceptRanges), ("unicode/utf8.first", laid_unicode_utf8_first)], narrowed := true }
def FnExactUnitOfUptoSaid : Prop := fnExactUnitOfUptoRow.holds Tryd.pinned (OpenSpec.upto fnExactUnitOfSpec)

/-- 'laws.FnExactPlainLine', WHERE WHAT IT READS IS OF BULK AT MOST 1048576: true; the input reads as it did. -/
def fnExactPlainLineUptoRow : OpenClaim := { program := "ytijhfmjkiijhiaadoor", sum := "b62537956096ea676325b2538a2c1428c33921f438b01cc089d03d5facb119bf", func := "loop.example/g01248/laws.FnExactPlainLine", spec := "fnExactPlainLine", inPlace := ["internal/bytealg.IndexByteString", "internal/bytealg.IndexString"], named := ["unicode/utf8.first", "unicode/utf8.acceptRanges", "internal/bytealg.MaxLen"], apart := false, laid := [("unicode/utf8.acceptRanges", laid_unicode_utf8_acceptRanges), ("unicode/utf8.first", laid_unicode_utf8_first)], narrowed := true }
def FnExactPlainLineUptoSaid : Prop := fnExactPlainLineUptoRow.holds Tryd.pinned (OpenSpec.upto fnExactPlainLineSpec)

/-- 'laws.FnExactReadLine', WHERE WHAT IT READS IS OF BULK AT MOST 1048576: true; the input reads as it did. -/
def fnExactReadLineUptoRow : OpenClaim := { program := "ytijhfmjkiijhiaadoor", sum := "b62537956096ea676325b2538a2c1428c33921f438b01cc089d03d5facb119bf", func := "loop.example/g01248/laws.FnExactReadLine", spec := "fnExactReadLine", inPlace := ["internal/bytealg.IndexByteString", "internal/bytealg.IndexString", "internal/abi.NoEscape", "internal/bytealg.MakeNoZero"], named := ["unicode/utf8.first", "unicode/utf8.acceptRanges", "internal/bytealg.MaxLen"], apart := false, laid := [("unicode/utf8.acceptRanges", laid_unicode_utf8_acceptRanges), ("unicode/utf8.first", laid_unicode_utf8_first)], narrowed := true }
def FnExactReadLineUptoSaid : Prop := fnExactReadLineUptoRow.holds Tryd.pinned (OpenSpec.upto fnExactReadLineSpec)

/-- 'laws.FnExactOnAtOnce', WHERE WHAT IT READS IS OF BULK AT MOST 1048576: true; the input reads as it did. -/
def fnExactOnAtOnceUptoRow : OpenClaim := { program := "ytijhfmjkiijhiaadoor", sum := "b62537956096ea676325b2538a2c1428c33921f438b01cc089d03d5facb119bf", func := "loop.example/g01248/laws.FnExactOnAtOnce", spec := "fnExactOnAtOnce", inPlace := ["internal/bytealg.IndexByteString", "internal/bytealg.IndexString"], named := ["unicode/utf8.first", "unicode/utf8.acceptRanges", "internal/bytealg.MaxLen"], apart := false, laid := [("unicode/utf8.acceptRanges", laid_unicode_utf8_acceptRanges), ("unicode/utf8.first", laid_unicode_utf8_first)], narrowed := true }
def FnExactOnAtOnceUptoSaid : Prop := fnExactOnAtOnceUptoRow.holds Tryd.pinned (OpenSpec.upto fnExactOnAtOnceSpec)

end Rows
end Go.Proofs.YtijhfmjkiijhiaaDoor
