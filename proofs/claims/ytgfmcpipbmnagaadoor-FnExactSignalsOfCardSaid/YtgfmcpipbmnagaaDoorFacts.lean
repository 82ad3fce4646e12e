/-
  Facts of this translation alone, which every row asks for: reckoned once. Used by all claims.
-/
import Derived.Test.YtgfmcpipbmnagaaDoorRows
import Derived.WalkKit
import Derived.ProofKit
import Derived.JoinedOf
namespace Go.Proofs.YtgfmcpipbmnagaaDoor

theorem and2 {a b : Bool} (ha : a = true) (hb : b = true) : (a && b) = true := by rw [ha, hb]; rfl
theorem factEnter : Tryd.pinned.checked.prog.mayEnter = true := by kernel_rfl
theorem factLifts : (Rows.fnExactReadTraceRow.lifted == Tryd.pinned.checked.prog.liftsFinal) = true := by kernel_rfl
theorem factMake : (Tryd.pinned.checked.prog.make == some Rows.fnExactReadTraceRow.make) = true := by kernel_rfl
end Go.Proofs.YtgfmcpipbmnagaaDoor
