/-
  LetterOf, the program's and the model's: both answer alike. Used by the claims on chapter 2.
-/
import Derived.Test.YtomhjfjfmjacfaaIsTableB
namespace Go.Proofs.Ytomhjfjfmjacfaa
open Go.RowKit Go.Maps Go.WideMaps
set_option linter.unusedVariables false

def letterR (xs : List ByteArray) (s : ByteArray) : Int × Bool := match tableB xs, placeB xs s with
  | true, some k => ((k : Int), true)
  | _, _ => (0, false)
theorem letterR_not {xs : List ByteArray} {s : ByteArray} (h : tableB xs = false) : letterR xs s = (0, false) := by unfold letterR; rw [h]
theorem letterR_none {xs : List ByteArray} {s : ByteArray} (h : placeB xs s = none) : letterR xs s = (0, false) := by unfold letterR; rw [h]; cases tableB xs <;> rfl
theorem letterR_some {xs : List ByteArray} {s : ByteArray} {k : Nat} (h : tableB xs = true) (hp : placeB xs s = some k) : letterR xs s = ((k : Int), true) := by unfold letterR; rw [h, hp]

theorem most_any (x y : Int) (w : World) : Calls Try.prog 92 #[.int .i64 x, .int .i64 y] w fun e w' => e = .returned (.int .i64 (if y < x then x else y)) ∧ w' = w := by
  by_cases h : y < x
  · rw [if_pos h]
    go_enter Try.func92, Try.ntmps92
    go_wp2
    go_ret
    exact ⟨rfl, rfl⟩
  · rw [if_neg h]
    go_enter Try.func92, Try.ntmps92
    go_wp2
    go_ret
    exact ⟨rfl, rfl⟩

end Go.Proofs.Ytomhjfjfmjacfaa
