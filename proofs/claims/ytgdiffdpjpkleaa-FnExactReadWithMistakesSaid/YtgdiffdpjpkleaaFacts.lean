/-
  Facts of this translation alone, which every row asks for: reckoned once. Used by all claims.
-/
import Derived.Test.YtgdiffdpjpkleaaRows
import Derived.WalkKit
import Derived.ProofKit
import Derived.JoinedOf
namespace Go.Proofs.Ytgdiffdpjpkleaa

theorem and2 {a b : Bool} (ha : a = true) (hb : b = true) : (a && b) = true := by rw [ha, hb]; rfl
theorem factEnter : Try.pinned.checked.prog.mayEnter = true := by kernel_rfl
theorem factLifts : (Rows.fnExactMarkDistanceRow.lifted == Try.pinned.checked.prog.liftsFinal) = true := by kernel_rfl
theorem factMake : (Try.pinned.checked.prog.make == some Rows.fnExactMarkDistanceRow.make) = true := by kernel_rfl
end Go.Proofs.Ytgdiffdpjpkleaa
