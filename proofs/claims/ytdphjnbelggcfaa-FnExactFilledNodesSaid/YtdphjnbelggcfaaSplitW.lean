/-
  Contract of the model's l1Split. Used by the claims on SplitString, VerifyChecksum, FnStrings, FnSplitJoin.
-/
import Derived.Test.YtdphjnbelggcfaaSplitL
import Derived.Test.YtdphjnbelggcfaaRows
import Derived.WalkKit
import Derived.LoopTactic
import Derived.Handy
import Derived.Lib.Hide
import Derived.Laws.AppendOwn
import Derived.OwnWalk
import Derived.Maps.AppendAt
namespace Go.Proofs.Ytdphjnbelggcfaa
open Go.RowKit
set_option linter.unusedVariables false

theorem infoStr : (Try.prog.info? 9).map (fun i => (i.zero, i.size, i.bytes)) = some (some (.string ByteArray.empty), 1, 16) := by kernel_rfl

/-- How l1Split ends: a slice of its own with the parts. -/
def SplitPost (s : ByteArray) (b : UInt8) (w : World) (e : Ending) (w' : World) : Prop :=
  ∃ v, e = .returned v ∧ w'.ownsRow w.heap.size 9 1 v (splitS s b).length ((splitS s b).map Value.string) ∧ Below w.heap.size w w'

end Go.Proofs.Ytdphjnbelggcfaa
