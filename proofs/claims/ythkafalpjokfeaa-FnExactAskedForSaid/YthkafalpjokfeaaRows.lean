/-
  No cell of these rows narrows 'for every input' (looked for: loops, veiled, ifaces, maps, wideKeys, modest, calm, conditions, laid).
  DERIVED. THE GIVEN ROWS OF THIS SEAT. 14 by the template 'for every input the law returns true; each argument reads behind the call as it read before'; 0 by the template 'total and deterministic' (their statements: YthkafalpjokfeaaTotals.lean).
  GIVEN WITH THE SEED: the statements are not yours to turn. If you find one false, say at which input.
  Laid BY PROGRAM, IN A SANDBOX (cutbox-rows.mjs): the forced cells as the released guide's own fill.sh prints them over the translation 29c014300bcd67ae… (all of the seat's roots in one cut). By AI agents, Wed Nov 11 2026. No macro, syntax, notation, axiom, sorry.
-/
import Derived.Test.YthkafalpjokfeaaChecked
import GoSem.Claim
import GoSem.ClaimJoined
import GoSem.ClaimMapViews
import Derived.JoinedTies
import Derived.KernelRfl
namespace Go.Proofs.Ythkafalpjokfeaa
/- THE CELL 'sum', in the pinned program and in every row, IS THE sha256 OF THE DUMP (.gsa) THAT YthkafalpjokfeaaProg.lean LOADS. Nothing in Lean hashes anything: it is a label: what it is worth is what the hold of that sum in a sandbox is worth. -/
noncomputable def Try.pinned : Pinned := { name := "ythkafalpjokfeaa", sum := "29c014300bcd67ae86668125e9a4d8b21a85b5fa85ace5ff78e1034133210101", checked := Try.checked }
namespace Rows
def none {H : Type} : Left H := { results := [], args := [] }

/-- 'laws.FnExactAreLetters': WHATEVER THE INPUT: true; the input reads as it did. -/
def fnExactAreLettersSpec : ChangeSpec := { name := "fnExactAreLetters", fn := fun _ => fun
  | [d1, d2] => { results := [.lit (.bool true)], args := [d1, d2] }
  | _ => none }
def fnExactAreLettersRow : OpenClaim := { program := "ythkafalpjokfeaa", sum := "29c014300bcd67ae86668125e9a4d8b21a85b5fa85ace5ff78e1034133210101", func := "loop.example/g01248/laws.FnExactAreLetters", spec := "fnExactAreLetters", plainKeys := false, apart := false }
def FnExactAreLettersSaid : Prop := fnExactAreLettersRow.holds Try.pinned (OpenSpec.ofChange fnExactAreLettersSpec)

/-- ITS FALSE NEIGHBOUR: 'it returns false'. Refute it at one input. -/
def fnExactAreLettersWrong : ChangeSpec := { name := "fnExactAreLetters", fn := fun _ => fun
  | [d1, d2] => { results := [.lit (.bool false)], args := [d1, d2] }
  | _ => none }
def FnExactAreLettersWrongFalsely : Prop := fnExactAreLettersRow.holds Try.pinned (OpenSpec.ofChange fnExactAreLettersWrong)

/-- 'laws.FnExactLettersBehind': WHATEVER THE INPUT: true; the input reads as it did. -/
def fnExactLettersBehindSpec : ChangeSpec := { name := "fnExactLettersBehind", fn := fun _ => fun
  | [d1, d2] => { results := [.lit (.bool true)], args := [d1, d2] }
  | _ => none }
def fnExactLettersBehindRow : OpenClaim := { program := "ythkafalpjokfeaa", sum := "29c014300bcd67ae86668125e9a4d8b21a85b5fa85ace5ff78e1034133210101", func := "loop.example/g01248/laws.FnExactLettersBehind", spec := "fnExactLettersBehind", plainKeys := false, apart := false }
def FnExactLettersBehindSaid : Prop := fnExactLettersBehindRow.holds Try.pinned (OpenSpec.ofChange fnExactLettersBehindSpec)

/-- ITS FALSE NEIGHBOUR: 'it returns false'. Refute it at one input. -/
def fnExactLettersBehindWrong : ChangeSpec := { name := "fnExactLettersBehind", fn := fun _ => fun
  | [d1, d2] => { results := [.lit (.bool false)], args := [d1, d2] }
  | _ => none }
def FnExactLettersBehindWrongFalsely : Prop := fnExactLettersBehindRow.holds Try.pinned (OpenSpec.ofChange fnExactLettersBehindWrong)

/-- 'laws.FnExactHeardUntil': WHATEVER THE INPUT: true; the input reads as it did. -/
def fnExactHeardUntilSpec : ChangeSpec := { name := "fnExactHeardUntil", fn := fun _ => fun
  | [d1, d2] => { results := [.lit (.bool true)], args := [d1, d2] }
  | _ => none }
def fnExactHeardUntilRow : OpenClaim := { program := "ythkafalpjokfeaa", sum := "29c014300bcd67ae86668125e9a4d8b21a85b5fa85ace5ff78e1034133210101", func := "loop.example/g01248/laws.FnExactHeardUntil", spec := "fnExactHeardUntil", plainKeys := false, apart := false }
def FnExactHeardUntilSaid : Prop := fnExactHeardUntilRow.holds Try.pinned (OpenSpec.ofChange fnExactHeardUntilSpec)

/-- ITS FALSE NEIGHBOUR: 'it returns false'. Refute it at one input. -/
def fnExactHeardUntilWrong : ChangeSpec := { name := "fnExactHeardUntil", fn := fun _ => fun
  | [d1, d2] => { results := [.lit (.bool false)], args := [d1, d2] }
  | _ => none }
def FnExactHeardUntilWrongFalsely : Prop := fnExactHeardUntilRow.holds Try.pinned (OpenSpec.ofChange fnExactHeardUntilWrong)

/-- 'laws.FnExactMeanHeard': WHATEVER THE INPUT: true; the input reads as it did. -/
def fnExactMeanHeardSpec : ChangeSpec := { name := "fnExactMeanHeard", fn := fun _ => fun
  | [d1, d2] => { results := [.lit (.bool true)], args := [d1, d2] }
  | _ => none }
def fnExactMeanHeardRow : OpenClaim := { program := "ythkafalpjokfeaa", sum := "29c014300bcd67ae86668125e9a4d8b21a85b5fa85ace5ff78e1034133210101", func := "loop.example/g01248/laws.FnExactMeanHeard", spec := "fnExactMeanHeard", unfollowed := true, recurses := true, plainKeys := false, apart := false }
def FnExactMeanHeardSaid : Prop := fnExactMeanHeardRow.holds Try.pinned (OpenSpec.ofChange fnExactMeanHeardSpec)

/-- ITS FALSE NEIGHBOUR: 'it returns false'. Refute it at one input. -/
def fnExactMeanHeardWrong : ChangeSpec := { name := "fnExactMeanHeard", fn := fun _ => fun
  | [d1, d2] => { results := [.lit (.bool false)], args := [d1, d2] }
  | _ => none }
def FnExactMeanHeardWrongFalsely : Prop := fnExactMeanHeardRow.holds Try.pinned (OpenSpec.ofChange fnExactMeanHeardWrong)

/-- 'laws.FnExactAnswerTo': WHATEVER THE INPUT: true; the input reads as it did. -/
def fnExactAnswerToSpec : ChangeSpec := { name := "fnExactAnswerTo", fn := fun _ => fun
  | [d1, d2, d3] => { results := [.lit (.bool true)], args := [d1, d2, d3] }
  | _ => none }
def fnExactAnswerToRow : OpenClaim := { program := "ythkafalpjokfeaa", sum := "29c014300bcd67ae86668125e9a4d8b21a85b5fa85ace5ff78e1034133210101", func := "loop.example/g01248/laws.FnExactAnswerTo", spec := "fnExactAnswerTo", plainKeys := false, apart := false }
def FnExactAnswerToSaid : Prop := fnExactAnswerToRow.holds Try.pinned (OpenSpec.ofChange fnExactAnswerToSpec)

/-- ITS FALSE NEIGHBOUR: 'it returns false'. Refute it at one input. -/
def fnExactAnswerToWrong : ChangeSpec := { name := "fnExactAnswerTo", fn := fun _ => fun
  | [d1, d2, d3] => { results := [.lit (.bool false)], args := [d1, d2, d3] }
  | _ => none }
def FnExactAnswerToWrongFalsely : Prop := fnExactAnswerToRow.holds Try.pinned (OpenSpec.ofChange fnExactAnswerToWrong)

/-- 'laws.FnExactPartBy': WHATEVER THE INPUT: true; the input reads as it did. -/
def fnExactPartBySpec : ChangeSpec := { name := "fnExactPartBy", fn := fun _ => fun
  | [d1, d2, d3] => { results := [.lit (.bool true)], args := [d1, d2, d3] }
  | _ => none }
def fnExactPartByRow : OpenClaim := { program := "ythkafalpjokfeaa", sum := "29c014300bcd67ae86668125e9a4d8b21a85b5fa85ace5ff78e1034133210101", func := "loop.example/g01248/laws.FnExactPartBy", spec := "fnExactPartBy", plainKeys := false, apart := false }
def FnExactPartBySaid : Prop := fnExactPartByRow.holds Try.pinned (OpenSpec.ofChange fnExactPartBySpec)

/-- ITS FALSE NEIGHBOUR: 'it returns false'. Refute it at one input. -/
def fnExactPartByWrong : ChangeSpec := { name := "fnExactPartBy", fn := fun _ => fun
  | [d1, d2, d3] => { results := [.lit (.bool false)], args := [d1, d2, d3] }
  | _ => none }
def FnExactPartByWrongFalsely : Prop := fnExactPartByRow.holds Try.pinned (OpenSpec.ofChange fnExactPartByWrong)

/-- 'laws.FnExactDepthOf': WHATEVER THE INPUT: true; the input reads as it did. -/
def fnExactDepthOfSpec : ChangeSpec := { name := "fnExactDepthOf", fn := fun _ => fun
  | [d1, d2] => { results := [.lit (.bool true)], args := [d1, d2] }
  | _ => none }
def fnExactDepthOfRow : OpenClaim := { program := "ythkafalpjokfeaa", sum := "29c014300bcd67ae86668125e9a4d8b21a85b5fa85ace5ff78e1034133210101", func := "loop.example/g01248/laws.FnExactDepthOf", spec := "fnExactDepthOf", unfollowed := true, recurses := true, plainKeys := false, apart := false }
def FnExactDepthOfSaid : Prop := fnExactDepthOfRow.holds Try.pinned (OpenSpec.ofChange fnExactDepthOfSpec)

/-- ITS FALSE NEIGHBOUR: 'it returns false'. Refute it at one input. -/
def fnExactDepthOfWrong : ChangeSpec := { name := "fnExactDepthOf", fn := fun _ => fun
  | [d1, d2] => { results := [.lit (.bool false)], args := [d1, d2] }
  | _ => none }
def FnExactDepthOfWrongFalsely : Prop := fnExactDepthOfRow.holds Try.pinned (OpenSpec.ofChange fnExactDepthOfWrong)

/-- 'laws.FnExactBestAsk': WHATEVER THE INPUT: true; the input reads as it did. -/
def fnExactBestAskSpec : ChangeSpec := { name := "fnExactBestAsk", fn := fun _ => fun
  | [d1, d2] => { results := [.lit (.bool true)], args := [d1, d2] }
  | _ => none }
def fnExactBestAskRow : OpenClaim := { program := "ythkafalpjokfeaa", sum := "29c014300bcd67ae86668125e9a4d8b21a85b5fa85ace5ff78e1034133210101", func := "loop.example/g01248/laws.FnExactBestAsk", spec := "fnExactBestAsk", unfollowed := true, recurses := true, plainKeys := false, apart := false }
def FnExactBestAskSaid : Prop := fnExactBestAskRow.holds Try.pinned (OpenSpec.ofChange fnExactBestAskSpec)

/-- ITS FALSE NEIGHBOUR: 'it returns false'. Refute it at one input. -/
def fnExactBestAskWrong : ChangeSpec := { name := "fnExactBestAsk", fn := fun _ => fun
  | [d1, d2] => { results := [.lit (.bool false)], args := [d1, d2] }
  | _ => none }
def FnExactBestAskWrongFalsely : Prop := fnExactBestAskRow.holds Try.pinned (OpenSpec.ofChange fnExactBestAskWrong)

/-- 'laws.FnExactAskedFor': WHATEVER THE INPUT: true; the input reads as it did. -/
def fnExactAskedForSpec : ChangeSpec := { name := "fnExactAskedFor", fn := fun _ => fun
  | [d1, d2] => { results := [.lit (.bool true)], args := [d1, d2] }
  | _ => none }
def fnExactAskedForRow : OpenClaim := { program := "ythkafalpjokfeaa", sum := "29c014300bcd67ae86668125e9a4d8b21a85b5fa85ace5ff78e1034133210101", func := "loop.example/g01248/laws.FnExactAskedFor", spec := "fnExactAskedFor", unfollowed := true, recurses := true, plainKeys := false, apart := false }
def FnExactAskedForSaid : Prop := fnExactAskedForRow.holds Try.pinned (OpenSpec.ofChange fnExactAskedForSpec)

/-- ITS FALSE NEIGHBOUR: 'it returns false'. Refute it at one input. -/
def fnExactAskedForWrong : ChangeSpec := { name := "fnExactAskedFor", fn := fun _ => fun
  | [d1, d2] => { results := [.lit (.bool false)], args := [d1, d2] }
  | _ => none }
def FnExactAskedForWrongFalsely : Prop := fnExactAskedForRow.holds Try.pinned (OpenSpec.ofChange fnExactAskedForWrong)

/-- 'laws.FnExactMeanAsked': WHATEVER THE INPUT: true; the input reads as it did. -/
def fnExactMeanAskedSpec : ChangeSpec := { name := "fnExactMeanAsked", fn := fun _ => fun
  | [d1, d2] => { results := [.lit (.bool true)], args := [d1, d2] }
  | _ => none }
def fnExactMeanAskedRow : OpenClaim := { program := "ythkafalpjokfeaa", sum := "29c014300bcd67ae86668125e9a4d8b21a85b5fa85ace5ff78e1034133210101", func := "loop.example/g01248/laws.FnExactMeanAsked", spec := "fnExactMeanAsked", unfollowed := true, recurses := true, plainKeys := false, apart := false }
def FnExactMeanAskedSaid : Prop := fnExactMeanAskedRow.holds Try.pinned (OpenSpec.ofChange fnExactMeanAskedSpec)

/-- ITS FALSE NEIGHBOUR: 'it returns false'. Refute it at one input. -/
def fnExactMeanAskedWrong : ChangeSpec := { name := "fnExactMeanAsked", fn := fun _ => fun
  | [d1, d2] => { results := [.lit (.bool false)], args := [d1, d2] }
  | _ => none }
def FnExactMeanAskedWrongFalsely : Prop := fnExactMeanAskedRow.holds Try.pinned (OpenSpec.ofChange fnExactMeanAskedWrong)

/-- 'laws.FnExactVainPlaces': WHATEVER THE INPUT: true; the input reads as it did. -/
def fnExactVainPlacesSpec : ChangeSpec := { name := "fnExactVainPlaces", fn := fun _ => fun
  | [d1, d2] => { results := [.lit (.bool true)], args := [d1, d2] }
  | _ => none }
def fnExactVainPlacesRow : OpenClaim := { program := "ythkafalpjokfeaa", sum := "29c014300bcd67ae86668125e9a4d8b21a85b5fa85ace5ff78e1034133210101", func := "loop.example/g01248/laws.FnExactVainPlaces", spec := "fnExactVainPlaces", unfollowed := true, recurses := true, plainKeys := false, apart := false }
def FnExactVainPlacesSaid : Prop := fnExactVainPlacesRow.holds Try.pinned (OpenSpec.ofChange fnExactVainPlacesSpec)

/-- ITS FALSE NEIGHBOUR: 'it returns false'. Refute it at one input. -/
def fnExactVainPlacesWrong : ChangeSpec := { name := "fnExactVainPlaces", fn := fun _ => fun
  | [d1, d2] => { results := [.lit (.bool false)], args := [d1, d2] }
  | _ => none }
def FnExactVainPlacesWrongFalsely : Prop := fnExactVainPlacesRow.holds Try.pinned (OpenSpec.ofChange fnExactVainPlacesWrong)

/-- 'laws.FnExactAsksFirst': WHATEVER THE INPUT: true; the input reads as it did. -/
def fnExactAsksFirstSpec : ChangeSpec := { name := "fnExactAsksFirst", fn := fun _ => fun
  | [d1, d2] => { results := [.lit (.bool true)], args := [d1, d2] }
  | _ => none }
def fnExactAsksFirstRow : OpenClaim := { program := "ythkafalpjokfeaa", sum := "29c014300bcd67ae86668125e9a4d8b21a85b5fa85ace5ff78e1034133210101", func := "loop.example/g01248/laws.FnExactAsksFirst", spec := "fnExactAsksFirst", unfollowed := true, recurses := true, plainKeys := false, apart := false }
def FnExactAsksFirstSaid : Prop := fnExactAsksFirstRow.holds Try.pinned (OpenSpec.ofChange fnExactAsksFirstSpec)

/-- ITS FALSE NEIGHBOUR: 'it returns false'. Refute it at one input. -/
def fnExactAsksFirstWrong : ChangeSpec := { name := "fnExactAsksFirst", fn := fun _ => fun
  | [d1, d2] => { results := [.lit (.bool false)], args := [d1, d2] }
  | _ => none }
def FnExactAsksFirstWrongFalsely : Prop := fnExactAsksFirstRow.holds Try.pinned (OpenSpec.ofChange fnExactAsksFirstWrong)

/-- 'laws.FnHeardLetters': WHATEVER THE INPUT: true; the input reads as it did. -/
def fnHeardLettersSpec : ChangeSpec := { name := "fnHeardLetters", fn := fun _ => fun
  | [d] => { results := [.lit (.bool true)], args := [d] }
  | _ => none }
def fnHeardLettersRow : OpenClaim := { program := "ythkafalpjokfeaa", sum := "29c014300bcd67ae86668125e9a4d8b21a85b5fa85ace5ff78e1034133210101", func := "loop.example/g01248/laws.FnHeardLetters", spec := "fnHeardLetters", unfollowed := true, recurses := true, plainKeys := false, apart := false }
def FnHeardLettersSaid : Prop := fnHeardLettersRow.holds Try.pinned (OpenSpec.ofChange fnHeardLettersSpec)

/-- ITS FALSE NEIGHBOUR: 'it returns false'. Refute it at one input. -/
def fnHeardLettersWrong : ChangeSpec := { name := "fnHeardLetters", fn := fun _ => fun
  | [d] => { results := [.lit (.bool false)], args := [d] }
  | _ => none }
def FnHeardLettersWrongFalsely : Prop := fnHeardLettersRow.holds Try.pinned (OpenSpec.ofChange fnHeardLettersWrong)

/-- 'laws.FnAskedLetters': WHATEVER THE INPUT: true; the input reads as it did. -/
def fnAskedLettersSpec : ChangeSpec := { name := "fnAskedLetters", fn := fun _ => fun
  | [d] => { results := [.lit (.bool true)], args := [d] }
  | _ => none }
def fnAskedLettersRow : OpenClaim := { program := "ythkafalpjokfeaa", sum := "29c014300bcd67ae86668125e9a4d8b21a85b5fa85ace5ff78e1034133210101", func := "loop.example/g01248/laws.FnAskedLetters", spec := "fnAskedLetters", unfollowed := true, recurses := true, plainKeys := false, apart := false }
def FnAskedLettersSaid : Prop := fnAskedLettersRow.holds Try.pinned (OpenSpec.ofChange fnAskedLettersSpec)

/-- ITS FALSE NEIGHBOUR: 'it returns false'. Refute it at one input. -/
def fnAskedLettersWrong : ChangeSpec := { name := "fnAskedLetters", fn := fun _ => fun
  | [d] => { results := [.lit (.bool false)], args := [d] }
  | _ => none }
def FnAskedLettersWrongFalsely : Prop := fnAskedLettersRow.holds Try.pinned (OpenSpec.ofChange fnAskedLettersWrong)

/- THE SECOND FORM. 'bulk': how many values and letters a reading holds, each counted each time it is reached (what is shared counts as often as it is met; a slice's spare places count too). A statement '..UptoSaid' is the law's where the arguments, and the package variables that the reading takes, are together of bulk at most 1048576: NARROWER than '..Said'. Prove '..Said' where nothing that the law and all that it calls make is longer than what came in: it says more and counts as full. Else prove '..UptoSaid'. A law counts once. -/
mutual
def uptoBulk {H : Type} : DataW H → Nat
  | .lit (.string bytes) => bytes.length + 1
  | .lit _ => 1
  | .nil => 1
  | .ptr d => uptoBulk d + 1
  | .slice elems spare => uptoBulkAll elems + uptoBulkAll spare + 1
  | .agg parts => uptoBulkAll parts + 1
  | .iface _ d => uptoBulk d + 1
  | .map entries => uptoBulkEntries entries + 1
  | .held _ => 1
def uptoBulkAll {H : Type} : List (DataW H) → Nat
  | [] => 0
  | d :: r => uptoBulk d + uptoBulkAll r
def uptoBulkEntries {H : Type} : List (Lit × DataW H) → Nat
  | [] => 0
  | x :: r => uptoBulkEntry x + uptoBulkEntries r
def uptoBulkEntry {H : Type} : Lit × DataW H → Nat
  | (.string bytes, d) => bytes.length + uptoBulk d + 1
  | (_, d) => uptoBulk d + 1
 end
def uptoSmall : (H : Type) → List (DataW H) → Bool := fun _ ds => decide (uptoBulkAll ds ≤ 1048576)
def OpenSpec.upto (s : _root_.Go.ChangeSpec) : _root_.Go.OpenSpec := { _root_.Go.OpenSpec.ofChange s with cond := some uptoSmall }

/-- 'laws.FnExactAreLetters', WHERE WHAT IT READS IS OF BULK AT MOST 1048576: true; the input reads as it did. -/
def fnExactAreLettersUptoRow : OpenClaim := { program := "ythkafalpjokfeaa", sum := "29c014300bcd67ae86668125e9a4d8b21a85b5fa85ace5ff78e1034133210101", func := "loop.example/g01248/laws.FnExactAreLetters", spec := "fnExactAreLetters", plainKeys := false, apart := false, narrowed := true }
def FnExactAreLettersUptoSaid : Prop := fnExactAreLettersUptoRow.holds Try.pinned (OpenSpec.upto fnExactAreLettersSpec)

/-- 'laws.FnExactLettersBehind', WHERE WHAT IT READS IS OF BULK AT MOST 1048576: true; the input reads as it did. -/
def fnExactLettersBehindUptoRow : OpenClaim := { program := "ythkafalpjokfeaa", sum := "29c014300bcd67ae86668125e9a4d8b21a85b5fa85ace5ff78e1034133210101", func := "loop.example/g01248/laws.FnExactLettersBehind", spec := "fnExactLettersBehind", plainKeys := false, apart := false, narrowed := true }
def FnExactLettersBehindUptoSaid : Prop := fnExactLettersBehindUptoRow.holds Try.pinned (OpenSpec.upto fnExactLettersBehindSpec)

/-- 'laws.FnExactHeardUntil', WHERE WHAT IT READS IS OF BULK AT MOST 1048576: true; the input reads as it did. -/
def fnExactHeardUntilUptoRow : OpenClaim := { program := "ythkafalpjokfeaa", sum := "29c014300bcd67ae86668125e9a4d8b21a85b5fa85ace5ff78e1034133210101", func := "loop.example/g01248/laws.FnExactHeardUntil", spec := "fnExactHeardUntil", plainKeys := false, apart := false, narrowed := true }
def FnExactHeardUntilUptoSaid : Prop := fnExactHeardUntilUptoRow.holds Try.pinned (OpenSpec.upto fnExactHeardUntilSpec)

/-- 'laws.FnExactMeanHeard', WHERE WHAT IT READS IS OF BULK AT MOST 1048576: true; the input reads as it did. -/
def fnExactMeanHeardUptoRow : OpenClaim := { program := "ythkafalpjokfeaa", sum := "29c014300bcd67ae86668125e9a4d8b21a85b5fa85ace5ff78e1034133210101", func := "loop.example/g01248/laws.FnExactMeanHeard", spec := "fnExactMeanHeard", unfollowed := true, recurses := true, plainKeys := false, apart := false, narrowed := true }
def FnExactMeanHeardUptoSaid : Prop := fnExactMeanHeardUptoRow.holds Try.pinned (OpenSpec.upto fnExactMeanHeardSpec)

/-- 'laws.FnExactAnswerTo', WHERE WHAT IT READS IS OF BULK AT MOST 1048576: true; the input reads as it did. -/
def fnExactAnswerToUptoRow : OpenClaim := { program := "ythkafalpjokfeaa", sum := "29c014300bcd67ae86668125e9a4d8b21a85b5fa85ace5ff78e1034133210101", func := "loop.example/g01248/laws.FnExactAnswerTo", spec := "fnExactAnswerTo", plainKeys := false, apart := false, narrowed := true }
def FnExactAnswerToUptoSaid : Prop := fnExactAnswerToUptoRow.holds Try.pinned (OpenSpec.upto fnExactAnswerToSpec)

/-- 'laws.FnExactPartBy', WHERE WHAT IT READS IS OF BULK AT MOST 1048576: true; the input reads as it did. -/
def fnExactPartByUptoRow : OpenClaim := { program := "ythkafalpjokfeaa", sum := "29c014300bcd67ae86668125e9a4d8b21a85b5fa85ace5ff78e1034133210101", func := "loop.example/g01248/laws.FnExactPartBy", spec := "fnExactPartBy", plainKeys := false, apart := false, narrowed := true }
def FnExactPartByUptoSaid : Prop := fnExactPartByUptoRow.holds Try.pinned (OpenSpec.upto fnExactPartBySpec)

/-- 'laws.FnExactDepthOf', WHERE WHAT IT READS IS OF BULK AT MOST 1048576: true; the input reads as it did. -/
def fnExactDepthOfUptoRow : OpenClaim := { program := "ythkafalpjokfeaa", sum := "29c014300bcd67ae86668125e9a4d8b21a85b5fa85ace5ff78e1034133210101", func := "loop.example/g01248/laws.FnExactDepthOf", spec := "fnExactDepthOf", unfollowed := true, recurses := true, plainKeys := false, apart := false, narrowed := true }
def FnExactDepthOfUptoSaid : Prop := fnExactDepthOfUptoRow.holds Try.pinned (OpenSpec.upto fnExactDepthOfSpec)

/-- 'laws.FnExactBestAsk', WHERE WHAT IT READS IS OF BULK AT MOST 1048576: true; the input reads as it did. -/
def fnExactBestAskUptoRow : OpenClaim := { program := "ythkafalpjokfeaa", sum := "29c014300bcd67ae86668125e9a4d8b21a85b5fa85ace5ff78e1034133210101", func := "loop.example/g01248/laws.FnExactBestAsk", spec := "fnExactBestAsk", unfollowed := true, recurses := true, plainKeys := false, apart := false, narrowed := true }
def FnExactBestAskUptoSaid : Prop := fnExactBestAskUptoRow.holds Try.pinned (OpenSpec.upto fnExactBestAskSpec)

/-- 'laws.FnExactAskedFor', WHERE WHAT IT READS IS OF BULK AT MOST 1048576: true; the input reads as it did. -/
def fnExactAskedForUptoRow : OpenClaim := { program := "ythkafalpjokfeaa", sum := "29c014300bcd67ae86668125e9a4d8b21a85b5fa85ace5ff78e1034133210101", func := "loop.example/g01248/laws.FnExactAskedFor", spec := "fnExactAskedFor", unfollowed := true, recurses := true, plainKeys := false, apart := false, narrowed := true }
def FnExactAskedForUptoSaid : Prop := fnExactAskedForUptoRow.holds Try.pinned (OpenSpec.upto fnExactAskedForSpec)

/-- 'laws.FnExactMeanAsked', WHERE WHAT IT READS IS OF BULK AT MOST 1048576: true; the input reads as it did. -/
def fnExactMeanAskedUptoRow : OpenClaim := { program := "ythkafalpjokfeaa", sum := "29c014300bcd67ae86668125e9a4d8b21a85b5fa85ace5ff78e1034133210101", func := "loop.example/g01248/laws.FnExactMeanAsked", spec := "fnExactMeanAsked", unfollowed := true, recurses := true, plainKeys := false, apart := false, narrowed := true }
def FnExactMeanAskedUptoSaid : Prop := fnExactMeanAskedUptoRow.holds Try.pinned (OpenSpec.upto fnExactMeanAskedSpec)

/-- 'laws.FnExactVainPlaces', WHERE WHAT IT READS IS OF BULK AT MOST 1048576: true; the input reads as it did. -/
def fnExactVainPlacesUptoRow : OpenClaim := { program := "ythkafalpjokfeaa", sum := "29c014300bcd67ae86668125e9a4d8b21a85b5fa85ace5ff78e1034133210101", func := "loop.example/g01248/laws.FnExactVainPlaces", spec := "fnExactVainPlaces", unfollowed := true, recurses := true, plainKeys := false, apart := false, narrowed := true }
def FnExactVainPlacesUptoSaid : Prop := fnExactVainPlacesUptoRow.holds Try.pinned (OpenSpec.upto fnExactVainPlacesSpec)

/-- 'laws.FnExactAsksFirst', WHERE WHAT IT READS IS OF BULK AT MOST 1048576: true; the input reads as it did. -/
def fnExactAsksFirstUptoRow : OpenClaim := { program := "ythkafalpjokfeaa", sum := "29c014300bcd67ae86668125e9a4d8b21a85b5fa85ace5ff78e1034133210101", func := "loop.example/g01248/laws.FnExactAsksFirst", spec := "fnExactAsksFirst", unfollowed := true, recurses := true, plainKeys := false, apart := false, narrowed := true }
def FnExactAsksFirstUptoSaid : Prop := fnExactAsksFirstUptoRow.holds Try.pinned (OpenSpec.upto fnExactAsksFirstSpec)

/-- 'laws.FnHeardLetters', WHERE WHAT IT READS IS OF BULK AT MOST 1048576: true; the input reads as it did. -/
def fnHeardLettersUptoRow : OpenClaim := { program := "ythkafalpjokfeaa", sum := "29c014300bcd67ae86668125e9a4d8b21a85b5fa85ace5ff78e1034133210101", func := "loop.example/g01248/laws.FnHeardLetters", spec := "fnHeardLetters", unfollowed := true, recurses := true, plainKeys := false, apart := false, narrowed := true }
def FnHeardLettersUptoSaid : Prop := fnHeardLettersUptoRow.holds Try.pinned (OpenSpec.upto fnHeardLettersSpec)

/-- 'laws.FnAskedLetters', WHERE WHAT IT READS IS OF BULK AT MOST 1048576: true; the input reads as it did. -/
def fnAskedLettersUptoRow : OpenClaim := { program := "ythkafalpjokfeaa", sum := "29c014300bcd67ae86668125e9a4d8b21a85b5fa85ace5ff78e1034133210101", func := "loop.example/g01248/laws.FnAskedLetters", spec := "fnAskedLetters", unfollowed := true, recurses := true, plainKeys := false, apart := false, narrowed := true }
def FnAskedLettersUptoSaid : Prop := fnAskedLettersUptoRow.holds Try.pinned (OpenSpec.upto fnAskedLettersSpec)

end Rows
end Go.Proofs.Ythkafalpjokfeaa
