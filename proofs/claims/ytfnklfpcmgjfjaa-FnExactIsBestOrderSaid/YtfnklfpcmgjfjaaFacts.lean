/-
  Facts of this translation alone, which every row asks for: reckoned once. Used by all claims.
-/
import Derived.Test.YtfnklfpcmgjfjaaRows
import Derived.WalkKit
import Derived.ProofKit
import Derived.JoinedOf
namespace Go.Proofs.Ytfnklfpcmgjfjaa

theorem and2 {a b : Bool} (ha : a = true) (hb : b = true) : (a && b) = true := by rw [ha, hb]; rfl
theorem factEnter : Try.pinned.checked.prog.mayEnter = true := by kernel_rfl
theorem factLifts : (Rows.fnExactCostOfRow.lifted == Try.pinned.checked.prog.liftsFinal) = true := by kernel_rfl
theorem factMake : (Try.pinned.checked.prog.make == some Rows.fnExactCostOfRow.make) = true := by kernel_rfl
end Go.Proofs.Ytfnklfpcmgjfjaa
