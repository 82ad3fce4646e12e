/-
  TimeOfMarks, the program's and the model's: both answer alike. Used by the claims on chapter 2.
-/
import Derived.Test.YthkafalpjokfeaaTimeW
import Derived.Test.YthkafalpjokfeaaMkTimeW0
namespace Go.Proofs.Ythkafalpjokfeaa
open Go.RowKit
set_option linter.unusedVariables false

def mkTimeR (s : ByteArray) : Int × Bool := if marksL (bl s) = true then (((tml (bl s) : Nat) : Int), true) else (0, false)

/-! ### The model's -/
def sums (l : Bs) : Nat := (l.map sgm).sum
theorem sums_take (s : ByteArray) (k : Nat) (h : k < s.size) : sums ((bl s).take (k + 1)) = sums ((bl s).take k) + sgm s[k] := by
  unfold sums
  rw [List.take_add_one, bl_at s k h]
  simp
theorem sums_le (l : Bs) : sums l ≤ 3 * l.length := by
  induction l with
  | nil => simp [sums]
  | cons c l ih =>
    have : sgm c ≤ 3 := by unfold sgm; split <;> omega
    simp only [sums, List.map_cons, List.sum_cons, List.length_cons] at ih ⊢
    omega

end Go.Proofs.Ythkafalpjokfeaa
