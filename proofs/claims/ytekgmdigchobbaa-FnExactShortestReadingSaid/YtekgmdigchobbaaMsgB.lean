/-
  IsMessage, the program's and the model's: both answer alike. Used by the claims on chapter 2.
-/
import Derived.Test.YtekgmdigchobbaaMsgW
namespace Go.Proofs.Ytekgmdigchobbaa
open Go.RowKit
set_option linter.unusedVariables false

/-! ### The model's -/
theorem isEmpty_false {m : ByteArray} {k : Nat} (h : k < m.size) : (bl m).isEmpty = false := by
  have := bl_len m
  cases hm : bl m with
  | nil => rw [hm] at this; simp at this; omega
  | cons _ _ => rfl

end Go.Proofs.Ytekgmdigchobbaa
