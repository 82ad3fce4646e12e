/-
  No cell of these rows narrows 'for every input' (looked for: loops, veiled, ifaces, maps, wideKeys, modest, calm, conditions, laid).
  DERIVED. THE GIVEN ROWS OF THIS SEAT. 12 by the template 'for every input the law returns true; each argument reads behind the call as it read before'; 0 by the template 'total and deterministic' (their statements: YtomhjfjfmjacfaaTotals.lean).
  GIVEN WITH THE SEED: the statements are not yours to turn. If you find one false, say at which input.
  Laid BY PROGRAM, IN A SANDBOX (cutbox-rows.mjs): the forced cells as the released guide's own fill.sh prints them over the translation e203c2733e5b386b… (all of the seat's roots in one cut). By AI agents, Wed Nov 11 2026. No macro, syntax, notation, axiom, sorry.
-/
import Derived.Test.YtomhjfjfmjacfaaChecked
import GoSem.Claim
import GoSem.ClaimJoined
import GoSem.ClaimMapViews
import Derived.JoinedTies
import Derived.KernelRfl
namespace Go.Proofs.Ytomhjfjfmjacfaa
/- THE CELL 'sum', in the pinned program and in every row, IS THE sha256 OF THE DUMP (.gsa) THAT YtomhjfjfmjacfaaProg.lean LOADS. Nothing in Lean hashes anything: it is a label: what it is worth is what the hold of that sum in a sandbox is worth. -/
noncomputable def Try.pinned : Pinned := { name := "ytomhjfjfmjacfaa", sum := "e203c2733e5b386b76daa8fda4d5c279e4bd4e8548ff06f28d956dc491702214", checked := Try.checked }
namespace Rows
def none {H : Type} : Left H := { results := [], args := [] }

/-- 'laws.FnExactIsNoise': WHATEVER THE INPUT: true; the input reads as it did. -/
def fnExactIsNoiseSpec : ChangeSpec := { name := "fnExactIsNoise", fn := fun _ => fun
  | [d] => { results := [.lit (.bool true)], args := [d] }
  | _ => none }
def fnExactIsNoiseRow : OpenClaim := { program := "ytomhjfjfmjacfaa", sum := "e203c2733e5b386b76daa8fda4d5c279e4bd4e8548ff06f28d956dc491702214", func := "loop.example/g01248/laws.FnExactIsNoise", spec := "fnExactIsNoise", apart := false }
def FnExactIsNoiseSaid : Prop := fnExactIsNoiseRow.holds Try.pinned (OpenSpec.ofChange fnExactIsNoiseSpec)

/-- ITS FALSE NEIGHBOUR: 'it returns false'. Refute it at one input. -/
def fnExactIsNoiseWrong : ChangeSpec := { name := "fnExactIsNoise", fn := fun _ => fun
  | [d] => { results := [.lit (.bool false)], args := [d] }
  | _ => none }
def FnExactIsNoiseWrongFalsely : Prop := fnExactIsNoiseRow.holds Try.pinned (OpenSpec.ofChange fnExactIsNoiseWrong)

/-- 'laws.FnExactChanceComes': WHATEVER THE INPUT: true; the input reads as it did. -/
def fnExactChanceComesSpec : ChangeSpec := { name := "fnExactChanceComes", fn := fun _ => fun
  | [d1, d2, d3] => { results := [.lit (.bool true)], args := [d1, d2, d3] }
  | _ => none }
def fnExactChanceComesRow : OpenClaim := { program := "ytomhjfjfmjacfaa", sum := "e203c2733e5b386b76daa8fda4d5c279e4bd4e8548ff06f28d956dc491702214", func := "loop.example/g01248/laws.FnExactChanceComes", spec := "fnExactChanceComes", unfollowed := true, recurses := true, apart := false }
def FnExactChanceComesSaid : Prop := fnExactChanceComesRow.holds Try.pinned (OpenSpec.ofChange fnExactChanceComesSpec)

/-- ITS FALSE NEIGHBOUR: 'it returns false'. Refute it at one input. -/
def fnExactChanceComesWrong : ChangeSpec := { name := "fnExactChanceComes", fn := fun _ => fun
  | [d1, d2, d3] => { results := [.lit (.bool false)], args := [d1, d2, d3] }
  | _ => none }
def FnExactChanceComesWrongFalsely : Prop := fnExactChanceComesRow.holds Try.pinned (OpenSpec.ofChange fnExactChanceComesWrong)

/-- 'laws.FnExactChanceRead': WHATEVER THE INPUT: true; the input reads as it did. -/
def fnExactChanceReadSpec : ChangeSpec := { name := "fnExactChanceRead", fn := fun _ => fun
  | [d1, d2, d3, d4] => { results := [.lit (.bool true)], args := [d1, d2, d3, d4] }
  | _ => none }
def fnExactChanceReadRow : OpenClaim := { program := "ytomhjfjfmjacfaa", sum := "e203c2733e5b386b76daa8fda4d5c279e4bd4e8548ff06f28d956dc491702214", func := "loop.example/g01248/laws.FnExactChanceRead", spec := "fnExactChanceRead", unfollowed := true, recurses := true, apart := false }
def FnExactChanceReadSaid : Prop := fnExactChanceReadRow.holds Try.pinned (OpenSpec.ofChange fnExactChanceReadSpec)

/-- ITS FALSE NEIGHBOUR: 'it returns false'. Refute it at one input. -/
def fnExactChanceReadWrong : ChangeSpec := { name := "fnExactChanceRead", fn := fun _ => fun
  | [d1, d2, d3, d4] => { results := [.lit (.bool false)], args := [d1, d2, d3, d4] }
  | _ => none }
def FnExactChanceReadWrongFalsely : Prop := fnExactChanceReadRow.holds Try.pinned (OpenSpec.ofChange fnExactChanceReadWrong)

/-- 'laws.FnExactReadTable': WHATEVER THE INPUT: true; the input reads as it did. -/
def fnExactReadTableSpec : ChangeSpec := { name := "fnExactReadTable", fn := fun _ => fun
  | [d1, d2, d3] => { results := [.lit (.bool true)], args := [d1, d2, d3] }
  | _ => none }
def fnExactReadTableRow : OpenClaim := { program := "ytomhjfjfmjacfaa", sum := "e203c2733e5b386b76daa8fda4d5c279e4bd4e8548ff06f28d956dc491702214", func := "loop.example/g01248/laws.FnExactReadTable", spec := "fnExactReadTable", unfollowed := true, recurses := true, apart := false }
def FnExactReadTableSaid : Prop := fnExactReadTableRow.holds Try.pinned (OpenSpec.ofChange fnExactReadTableSpec)

/-- ITS FALSE NEIGHBOUR: 'it returns false'. Refute it at one input. -/
def fnExactReadTableWrong : ChangeSpec := { name := "fnExactReadTable", fn := fun _ => fun
  | [d1, d2, d3] => { results := [.lit (.bool false)], args := [d1, d2, d3] }
  | _ => none }
def FnExactReadTableWrongFalsely : Prop := fnExactReadTableRow.holds Try.pinned (OpenSpec.ofChange fnExactReadTableWrong)

/-- 'laws.FnExactChanceUnread': WHATEVER THE INPUT: true; the input reads as it did. -/
def fnExactChanceUnreadSpec : ChangeSpec := { name := "fnExactChanceUnread", fn := fun _ => fun
  | [d1, d2, d3] => { results := [.lit (.bool true)], args := [d1, d2, d3] }
  | _ => none }
def fnExactChanceUnreadRow : OpenClaim := { program := "ytomhjfjfmjacfaa", sum := "e203c2733e5b386b76daa8fda4d5c279e4bd4e8548ff06f28d956dc491702214", func := "loop.example/g01248/laws.FnExactChanceUnread", spec := "fnExactChanceUnread", unfollowed := true, recurses := true, apart := false }
def FnExactChanceUnreadSaid : Prop := fnExactChanceUnreadRow.holds Try.pinned (OpenSpec.ofChange fnExactChanceUnreadSpec)

/-- ITS FALSE NEIGHBOUR: 'it returns false'. Refute it at one input. -/
def fnExactChanceUnreadWrong : ChangeSpec := { name := "fnExactChanceUnread", fn := fun _ => fun
  | [d1, d2, d3] => { results := [.lit (.bool false)], args := [d1, d2, d3] }
  | _ => none }
def FnExactChanceUnreadWrongFalsely : Prop := fnExactChanceUnreadRow.holds Try.pinned (OpenSpec.ofChange fnExactChanceUnreadWrong)

/-- 'laws.FnExactChancesSent': WHATEVER THE INPUT: true; the input reads as it did. -/
def fnExactChancesSentSpec : ChangeSpec := { name := "fnExactChancesSent", fn := fun _ => fun
  | [d1, d2, d3] => { results := [.lit (.bool true)], args := [d1, d2, d3] }
  | _ => none }
def fnExactChancesSentRow : OpenClaim := { program := "ytomhjfjfmjacfaa", sum := "e203c2733e5b386b76daa8fda4d5c279e4bd4e8548ff06f28d956dc491702214", func := "loop.example/g01248/laws.FnExactChancesSent", spec := "fnExactChancesSent", unfollowed := true, recurses := true, apart := false }
def FnExactChancesSentSaid : Prop := fnExactChancesSentRow.holds Try.pinned (OpenSpec.ofChange fnExactChancesSentSpec)

/-- ITS FALSE NEIGHBOUR: 'it returns false'. Refute it at one input. -/
def fnExactChancesSentWrong : ChangeSpec := { name := "fnExactChancesSent", fn := fun _ => fun
  | [d1, d2, d3] => { results := [.lit (.bool false)], args := [d1, d2, d3] }
  | _ => none }
def FnExactChancesSentWrongFalsely : Prop := fnExactChancesSentRow.holds Try.pinned (OpenSpec.ofChange fnExactChancesSentWrong)

/-- 'laws.FnExactBestGuess': WHATEVER THE INPUT: true; the input reads as it did. -/
def fnExactBestGuessSpec : ChangeSpec := { name := "fnExactBestGuess", fn := fun _ => fun
  | [d1, d2, d3] => { results := [.lit (.bool true)], args := [d1, d2, d3] }
  | _ => none }
def fnExactBestGuessRow : OpenClaim := { program := "ytomhjfjfmjacfaa", sum := "e203c2733e5b386b76daa8fda4d5c279e4bd4e8548ff06f28d956dc491702214", func := "loop.example/g01248/laws.FnExactBestGuess", spec := "fnExactBestGuess", unfollowed := true, recurses := true, apart := false }
def FnExactBestGuessSaid : Prop := fnExactBestGuessRow.holds Try.pinned (OpenSpec.ofChange fnExactBestGuessSpec)

/-- ITS FALSE NEIGHBOUR: 'it returns false'. Refute it at one input. -/
def fnExactBestGuessWrong : ChangeSpec := { name := "fnExactBestGuess", fn := fun _ => fun
  | [d1, d2, d3] => { results := [.lit (.bool false)], args := [d1, d2, d3] }
  | _ => none }
def FnExactBestGuessWrongFalsely : Prop := fnExactBestGuessRow.holds Try.pinned (OpenSpec.ofChange fnExactBestGuessWrong)

/-- 'laws.FnExactMeanWrong': WHATEVER THE INPUT: true; the input reads as it did. -/
def fnExactMeanWrongSpec : ChangeSpec := { name := "fnExactMeanWrong", fn := fun _ => fun
  | [d1, d2, d3] => { results := [.lit (.bool true)], args := [d1, d2, d3] }
  | _ => none }
def fnExactMeanWrongRow : OpenClaim := { program := "ytomhjfjfmjacfaa", sum := "e203c2733e5b386b76daa8fda4d5c279e4bd4e8548ff06f28d956dc491702214", func := "loop.example/g01248/laws.FnExactMeanWrong", spec := "fnExactMeanWrong", unfollowed := true, recurses := true, apart := false }
def FnExactMeanWrongSaid : Prop := fnExactMeanWrongRow.holds Try.pinned (OpenSpec.ofChange fnExactMeanWrongSpec)

/-- ITS FALSE NEIGHBOUR: 'it returns false'. Refute it at one input. -/
def fnExactMeanWrongWrong : ChangeSpec := { name := "fnExactMeanWrong", fn := fun _ => fun
  | [d1, d2, d3] => { results := [.lit (.bool false)], args := [d1, d2, d3] }
  | _ => none }
def FnExactMeanWrongWrongFalsely : Prop := fnExactMeanWrongRow.holds Try.pinned (OpenSpec.ofChange fnExactMeanWrongWrong)

/-- 'laws.FnExactChanceRight': WHATEVER THE INPUT: true; the input reads as it did. -/
def fnExactChanceRightSpec : ChangeSpec := { name := "fnExactChanceRight", fn := fun _ => fun
  | [d1, d2] => { results := [.lit (.bool true)], args := [d1, d2] }
  | _ => none }
def fnExactChanceRightRow : OpenClaim := { program := "ytomhjfjfmjacfaa", sum := "e203c2733e5b386b76daa8fda4d5c279e4bd4e8548ff06f28d956dc491702214", func := "loop.example/g01248/laws.FnExactChanceRight", spec := "fnExactChanceRight", unfollowed := true, recurses := true, apart := false }
def FnExactChanceRightSaid : Prop := fnExactChanceRightRow.holds Try.pinned (OpenSpec.ofChange fnExactChanceRightSpec)

/-- ITS FALSE NEIGHBOUR: 'it returns false'. Refute it at one input. -/
def fnExactChanceRightWrong : ChangeSpec := { name := "fnExactChanceRight", fn := fun _ => fun
  | [d1, d2] => { results := [.lit (.bool false)], args := [d1, d2] }
  | _ => none }
def FnExactChanceRightWrongFalsely : Prop := fnExactChanceRightRow.holds Try.pinned (OpenSpec.ofChange fnExactChanceRightWrong)

/-- 'laws.FnExactLeastApart': WHATEVER THE INPUT: true; the input reads as it did. -/
def fnExactLeastApartSpec : ChangeSpec := { name := "fnExactLeastApart", fn := fun _ => fun
  | [d] => { results := [.lit (.bool true)], args := [d] }
  | _ => none }
def fnExactLeastApartRow : OpenClaim := { program := "ytomhjfjfmjacfaa", sum := "e203c2733e5b386b76daa8fda4d5c279e4bd4e8548ff06f28d956dc491702214", func := "loop.example/g01248/laws.FnExactLeastApart", spec := "fnExactLeastApart", unfollowed := true, recurses := true, apart := false }
def FnExactLeastApartSaid : Prop := fnExactLeastApartRow.holds Try.pinned (OpenSpec.ofChange fnExactLeastApartSpec)

/-- ITS FALSE NEIGHBOUR: 'it returns false'. Refute it at one input. -/
def fnExactLeastApartWrong : ChangeSpec := { name := "fnExactLeastApart", fn := fun _ => fun
  | [d] => { results := [.lit (.bool false)], args := [d] }
  | _ => none }
def FnExactLeastApartWrongFalsely : Prop := fnExactLeastApartRow.holds Try.pinned (OpenSpec.ofChange fnExactLeastApartWrong)

/-- 'laws.FnExactClosePairs': WHATEVER THE INPUT: true; the input reads as it did. -/
def fnExactClosePairsSpec : ChangeSpec := { name := "fnExactClosePairs", fn := fun _ => fun
  | [d1, d2] => { results := [.lit (.bool true)], args := [d1, d2] }
  | _ => none }
def fnExactClosePairsRow : OpenClaim := { program := "ytomhjfjfmjacfaa", sum := "e203c2733e5b386b76daa8fda4d5c279e4bd4e8548ff06f28d956dc491702214", func := "loop.example/g01248/laws.FnExactClosePairs", spec := "fnExactClosePairs", unfollowed := true, recurses := true, apart := false }
def FnExactClosePairsSaid : Prop := fnExactClosePairsRow.holds Try.pinned (OpenSpec.ofChange fnExactClosePairsSpec)

/-- ITS FALSE NEIGHBOUR: 'it returns false'. Refute it at one input. -/
def fnExactClosePairsWrong : ChangeSpec := { name := "fnExactClosePairs", fn := fun _ => fun
  | [d1, d2] => { results := [.lit (.bool false)], args := [d1, d2] }
  | _ => none }
def FnExactClosePairsWrongFalsely : Prop := fnExactClosePairsRow.holds Try.pinned (OpenSpec.ofChange fnExactClosePairsWrong)

/-- 'laws.FnNoise': WHATEVER THE INPUT: true; the input reads as it did. -/
def fnNoiseSpec : ChangeSpec := { name := "fnNoise", fn := fun _ => fun
  | [d] => { results := [.lit (.bool true)], args := [d] }
  | _ => none }
def fnNoiseRow : OpenClaim := { program := "ytomhjfjfmjacfaa", sum := "e203c2733e5b386b76daa8fda4d5c279e4bd4e8548ff06f28d956dc491702214", func := "loop.example/g01248/laws.FnNoise", spec := "fnNoise", unfollowed := true, recurses := true, apart := false }
def FnNoiseSaid : Prop := fnNoiseRow.holds Try.pinned (OpenSpec.ofChange fnNoiseSpec)

/-- ITS FALSE NEIGHBOUR: 'it returns false'. Refute it at one input. -/
def fnNoiseWrong : ChangeSpec := { name := "fnNoise", fn := fun _ => fun
  | [d] => { results := [.lit (.bool false)], args := [d] }
  | _ => none }
def FnNoiseWrongFalsely : Prop := fnNoiseRow.holds Try.pinned (OpenSpec.ofChange fnNoiseWrong)

/- THE SECOND FORM. 'bulk': how many values and letters a reading holds, each counted each time it is reached (what is shared counts as often as it is met; a slice's spare places count too). A statement '..UptoSaid' is the law's where the arguments, and the package variables that the reading takes, are together of bulk at most 1048576: NARROWER than '..Said'. Prove '..Said' where nothing that the law and all that it calls make is longer than what came in: it says more and counts as full. Else prove '..UptoSaid'. A law counts once. -/
mutual
def uptoBulk {H : Type} : DataW H → Nat
  | .lit (.string bytes) => bytes.length + 1
  | .lit _ => 1
  | .nil => 1
  | .ptr d => uptoBulk d + 1
  | .slice elems spare => uptoBulkAll elems + uptoBulkAll spare + 1
  | .agg parts => uptoBulkAll parts + 1
  | .iface _ d => uptoBulk d + 1
  | .map entries => uptoBulkEntries entries + 1
  | .held _ => 1
def uptoBulkAll {H : Type} : List (DataW H) → Nat
  | [] => 0
  | d :: r => uptoBulk d + uptoBulkAll r
def uptoBulkEntries {H : Type} : List (Lit × DataW H) → Nat
  | [] => 0
  | x :: r => uptoBulkEntry x + uptoBulkEntries r
def uptoBulkEntry {H : Type} : Lit × DataW H → Nat
  | (.string bytes, d) => bytes.length + uptoBulk d + 1
  | (_, d) => uptoBulk d + 1
 end
def uptoSmall : (H : Type) → List (DataW H) → Bool := fun _ ds => decide (uptoBulkAll ds ≤ 1048576)
def OpenSpec.upto (s : _root_.Go.ChangeSpec) : _root_.Go.OpenSpec := { _root_.Go.OpenSpec.ofChange s with cond := some uptoSmall }

/-- 'laws.FnExactIsNoise', WHERE WHAT IT READS IS OF BULK AT MOST 1048576: true; the input reads as it did. -/
def fnExactIsNoiseUptoRow : OpenClaim := { program := "ytomhjfjfmjacfaa", sum := "e203c2733e5b386b76daa8fda4d5c279e4bd4e8548ff06f28d956dc491702214", func := "loop.example/g01248/laws.FnExactIsNoise", spec := "fnExactIsNoise", apart := false, narrowed := true }
def FnExactIsNoiseUptoSaid : Prop := fnExactIsNoiseUptoRow.holds Try.pinned (OpenSpec.upto fnExactIsNoiseSpec)

/-- 'laws.FnExactChanceComes', WHERE WHAT IT READS IS OF BULK AT MOST 1048576: true; the input reads as it did. -/
def fnExactChanceComesUptoRow : OpenClaim := { program := "ytomhjfjfmjacfaa", sum := "e203c2733e5b386b76daa8fda4d5c279e4bd4e8548ff06f28d956dc491702214", func := "loop.example/g01248/laws.FnExactChanceComes", spec := "fnExactChanceComes", unfollowed := true, recurses := true, apart := false, narrowed := true }
def FnExactChanceComesUptoSaid : Prop := fnExactChanceComesUptoRow.holds Try.pinned (OpenSpec.upto fnExactChanceComesSpec)

/-- 'laws.FnExactChanceRead', WHERE WHAT IT READS IS OF BULK AT MOST 1048576: true; the input reads as it did. -/
def fnExactChanceReadUptoRow : OpenClaim := { program := "ytomhjfjfmjacfaa", sum := "e203c2733e5b386b76daa8fda4d5c279e4bd4e8548ff06f28d956dc491702214", func := "loop.example/g01248/laws.FnExactChanceRead", spec := "fnExactChanceRead", unfollowed := true, recurses := true, apart := false, narrowed := true }
def FnExactChanceReadUptoSaid : Prop := fnExactChanceReadUptoRow.holds Try.pinned (OpenSpec.upto fnExactChanceReadSpec)

/-- 'laws.FnExactReadTable', WHERE WHAT IT READS IS OF BULK AT MOST 1048576: true; the input reads as it did. -/
def fnExactReadTableUptoRow : OpenClaim := { program := "ytomhjfjfmjacfaa", sum := "e203c2733e5b386b76daa8fda4d5c279e4bd4e8548ff06f28d956dc491702214", func := "loop.example/g01248/laws.FnExactReadTable", spec := "fnExactReadTable", unfollowed := true, recurses := true, apart := false, narrowed := true }
def FnExactReadTableUptoSaid : Prop := fnExactReadTableUptoRow.holds Try.pinned (OpenSpec.upto fnExactReadTableSpec)

/-- 'laws.FnExactChanceUnread', WHERE WHAT IT READS IS OF BULK AT MOST 1048576: true; the input reads as it did. -/
def fnExactChanceUnreadUptoRow : OpenClaim := { program := "ytomhjfjfmjacfaa", sum := "e203c2733e5b386b76daa8fda4d5c279e4bd4e8548ff06f28d956dc491702214", func := "loop.example/g01248/laws.FnExactChanceUnread", spec := "fnExactChanceUnread", unfollowed := true, recurses := true, apart := false, narrowed := true }
def FnExactChanceUnreadUptoSaid : Prop := fnExactChanceUnreadUptoRow.holds Try.pinned (OpenSpec.upto fnExactChanceUnreadSpec)

/-- 'laws.FnExactChancesSent', WHERE WHAT IT READS IS OF BULK AT MOST 1048576: true; the input reads as it did. -/
def fnExactChancesSentUptoRow : OpenClaim := { program := "ytomhjfjfmjacfaa", sum := "e203c2733e5b386b76daa8fda4d5c279e4bd4e8548ff06f28d956dc491702214", func := "loop.example/g01248/laws.FnExactChancesSent", spec := "fnExactChancesSent", unfollowed := true, recurses := true, apart := false, narrowed := true }
def FnExactChancesSentUptoSaid : Prop := fnExactChancesSentUptoRow.holds Try.pinned (OpenSpec.upto fnExactChancesSentSpec)

/-- 'laws.FnExactBestGuess', WHERE WHAT IT READS IS OF BULK AT MOST 1048576: true; the input reads as it did. -/
def fnExactBestGuessUptoRow : OpenClaim := { program := "ytomhjfjfmjacfaa", sum := "e203c2733e5b386b76daa8fda4d5c279e4bd4e8548ff06f28d956dc491702214", func := "loop.example/g01248/laws.FnExactBestGuess", spec := "fnExactBestGuess", unfollowed := true, recurses := true, apart := false, narrowed := true }
def FnExactBestGuessUptoSaid : Prop := fnExactBestGuessUptoRow.holds Try.pinned (OpenSpec.upto fnExactBestGuessSpec)

/-- 'laws.FnExactMeanWrong', WHERE WHAT IT READS IS OF BULK AT MOST 1048576: true; the input reads as it did. -/
def fnExactMeanWrongUptoRow : OpenClaim := { program := "ytomhjfjfmjacfaa", sum := "e203c2733e5b386b76daa8fda4d5c279e4bd4e8548ff06f28d956dc491702214", func := "loop.example/g01248/laws.FnExactMeanWrong", spec := "fnExactMeanWrong", unfollowed := true, recurses := true, apart := false, narrowed := true }
def FnExactMeanWrongUptoSaid : Prop := fnExactMeanWrongUptoRow.holds Try.pinned (OpenSpec.upto fnExactMeanWrongSpec)

/-- 'laws.FnExactChanceRight', WHERE WHAT IT READS IS OF BULK AT MOST 1048576: true; the input reads as it did. -/
def fnExactChanceRightUptoRow : OpenClaim := { program := "ytomhjfjfmjacfaa", sum := "e203c2733e5b386b76daa8fda4d5c279e4bd4e8548ff06f28d956dc491702214", func := "loop.example/g01248/laws.FnExactChanceRight", spec := "fnExactChanceRight", unfollowed := true, recurses := true, apart := false, narrowed := true }
def FnExactChanceRightUptoSaid : Prop := fnExactChanceRightUptoRow.holds Try.pinned (OpenSpec.upto fnExactChanceRightSpec)

/-- 'laws.FnExactLeastApart', WHERE WHAT IT READS IS OF BULK AT MOST 1048576: true; the input reads as it did. -/
def fnExactLeastApartUptoRow : OpenClaim := { program := "ytomhjfjfmjacfaa", sum := "e203c2733e5b386b76daa8fda4d5c279e4bd4e8548ff06f28d956dc491702214", func := "loop.example/g01248/laws.FnExactLeastApart", spec := "fnExactLeastApart", unfollowed := true, recurses := true, apart := false, narrowed := true }
def FnExactLeastApartUptoSaid : Prop := fnExactLeastApartUptoRow.holds Try.pinned (OpenSpec.upto fnExactLeastApartSpec)

/-- 'laws.FnExactClosePairs', WHERE WHAT IT READS IS OF BULK AT MOST 1048576: true; the input reads as it did. -/
def fnExactClosePairsUptoRow : OpenClaim := { program := "ytomhjfjfmjacfaa", sum := "e203c2733e5b386b76daa8fda4d5c279e4bd4e8548ff06f28d956dc491702214", func := "loop.example/g01248/laws.FnExactClosePairs", spec := "fnExactClosePairs", unfollowed := true, recurses := true, apart := false, narrowed := true }
def FnExactClosePairsUptoSaid : Prop := fnExactClosePairsUptoRow.holds Try.pinned (OpenSpec.upto fnExactClosePairsSpec)

/-- 'laws.FnNoise', WHERE WHAT IT READS IS OF BULK AT MOST 1048576: true; the input reads as it did. -/
def fnNoiseUptoRow : OpenClaim := { program := "ytomhjfjfmjacfaa", sum := "e203c2733e5b386b76daa8fda4d5c279e4bd4e8548ff06f28d956dc491702214", func := "loop.example/g01248/laws.FnNoise", spec := "fnNoise", unfollowed := true, recurses := true, apart := false, narrowed := true }
def FnNoiseUptoSaid : Prop := fnNoiseUptoRow.holds Try.pinned (OpenSpec.upto fnNoiseSpec)

end Rows
end Go.Proofs.Ytomhjfjfmjacfaa
