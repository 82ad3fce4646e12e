/-
  signsOfRun of the program: the signs of a run. Used by the claims on chapter 4.
-/
import Derived.Test.YtijhfmjkiijhiaaDoorRunW
import Derived.Test.YtijhfmjkiijhiaaDoorTwoW
import Derived.Laws.StructEq
import Derived.Tactics2
namespace Go.Proofs.YtijhfmjkiijhiaaDoor
open Go.RowKit
set_option linter.unusedVariables false

/-- Two pairs of numbers compared. -/
theorem eqPair (a b c d : Int) (w : World) : (Op.equalIn 10000 48 (.agg #[.int .i64 a, .int .i64 b]) (.agg #[.int .i64 c, .int .i64 d])).run Tryd.prog w = .ok (a == c && b == d) w := by
  have u3 := Tryd.underlying3
  have a3 := Tryd.isAgg3
  have z3 := Tryd.sizeOf3
  rw [show (10000 : Nat) = 9999 + 1 from rfl, Op.equalIn]
  simp only [Sem.run_bind, run_underlying Tryd.underlying48, Result.andThen_ok]
  simp only [Std.Legacy.Range.forIn_eq_forIn_range', Std.Legacy.Range.size, Nat.sub_zero, Nat.add_sub_cancel, Nat.div_one, List.range'_succ, List.range'_zero, List.forIn_cons, List.forIn_nil]
  go_simp
  by_cases h1 : a = c <;> by_cases h2 : b = d <;> simp [h1, h2]
theorem eqPair_b {a b c d : Int} {w : World} {r : Bool} (h : (a == c && b == d) = r) : (Op.equalIn 10000 48 (.agg #[.int .i64 a, .int .i64 b]) (.agg #[.int .i64 c, .int .i64 d])).run Tryd.prog w = .ok r w := by rw [eqPair, h]
set_option maxRecDepth 100000 in
set_option maxHeartbeats 4000000 in
theorem signsOf_y (X Y : Int) (r : Bs) (w : World) (h : (X = 1 ∧ Y = 1 ∧ r = [46]) ∨ (X = 1 ∧ Y = 3 ∧ r = [45]) ∨ (X = 0 ∧ Y = 1 ∧ r = []) ∨ (X = 0 ∧ Y = 3 ∧ r = [32]) ∨ (X = 0 ∧ Y = 7 ∧ r = [47])) :
    Calls Tryd.prog 55 #[.agg #[.int .i64 X, .int .i64 Y]] w fun e w' => e = .returned (.tuple #[.string ⟨r.toArray⟩, .bool true]) ∧ Below w.heap.size w w' := by
  rcases h with ⟨rfl, rfl, rfl⟩ | ⟨rfl, rfl, rfl⟩ | ⟨rfl, rfl, rfl⟩ | ⟨rfl, rfl, rfl⟩ | ⟨rfl, rfl, rfl⟩
  · have q1 := eqPair_b (a := 1) (b := 1) (c := 1) (d := 1) (w := w.alloc (.cells #[.int .i64 1, .int .i64 1] 48)) (r := true) rfl
    go_enter Tryd.func55, Tryd.ntmps55
    go_wp2
    go_ret2
    exact ⟨rfl, below_alloc _ _⟩
  · have q1 := eqPair_b (a := 1) (b := 3) (c := 1) (d := 1) (w := w.alloc (.cells #[.int .i64 1, .int .i64 3] 48)) (r := false) rfl
    have q2 := eqPair_b (a := 1) (b := 3) (c := 1) (d := 3) (w := w.alloc (.cells #[.int .i64 1, .int .i64 3] 48)) (r := true) rfl
    go_enter Tryd.func55, Tryd.ntmps55
    go_wp2
    go_ret2
    exact ⟨rfl, below_alloc _ _⟩
  · have q1 := eqPair_b (a := 0) (b := 1) (c := 1) (d := 1) (w := w.alloc (.cells #[.int .i64 0, .int .i64 1] 48)) (r := false) rfl
    have q2 := eqPair_b (a := 0) (b := 1) (c := 1) (d := 3) (w := w.alloc (.cells #[.int .i64 0, .int .i64 1] 48)) (r := false) rfl
    have q3 := eqPair_b (a := 0) (b := 1) (c := 0) (d := 1) (w := w.alloc (.cells #[.int .i64 0, .int .i64 1] 48)) (r := true) rfl
    go_enter Tryd.func55, Tryd.ntmps55
    go_wp2
    go_ret2
    exact ⟨rfl, below_alloc _ _⟩
  · have q1 := eqPair_b (a := 0) (b := 3) (c := 1) (d := 1) (w := w.alloc (.cells #[.int .i64 0, .int .i64 3] 48)) (r := false) rfl
    have q2 := eqPair_b (a := 0) (b := 3) (c := 1) (d := 3) (w := w.alloc (.cells #[.int .i64 0, .int .i64 3] 48)) (r := false) rfl
    have q3 := eqPair_b (a := 0) (b := 3) (c := 0) (d := 1) (w := w.alloc (.cells #[.int .i64 0, .int .i64 3] 48)) (r := false) rfl
    have q4 := eqPair_b (a := 0) (b := 3) (c := 0) (d := 3) (w := w.alloc (.cells #[.int .i64 0, .int .i64 3] 48)) (r := true) rfl
    go_enter Tryd.func55, Tryd.ntmps55
    go_wp2
    go_ret2
    exact ⟨rfl, below_alloc _ _⟩
  · have q1 := eqPair_b (a := 0) (b := 7) (c := 1) (d := 1) (w := w.alloc (.cells #[.int .i64 0, .int .i64 7] 48)) (r := false) rfl
    have q2 := eqPair_b (a := 0) (b := 7) (c := 1) (d := 3) (w := w.alloc (.cells #[.int .i64 0, .int .i64 7] 48)) (r := false) rfl
    have q3 := eqPair_b (a := 0) (b := 7) (c := 0) (d := 1) (w := w.alloc (.cells #[.int .i64 0, .int .i64 7] 48)) (r := false) rfl
    have q4 := eqPair_b (a := 0) (b := 7) (c := 0) (d := 3) (w := w.alloc (.cells #[.int .i64 0, .int .i64 7] 48)) (r := false) rfl
    have q5 := eqPair_b (a := 0) (b := 7) (c := 0) (d := 7) (w := w.alloc (.cells #[.int .i64 0, .int .i64 7] 48)) (r := true) rfl
    go_enter Tryd.func55, Tryd.ntmps55
    go_wp2
    go_ret2
    exact ⟨rfl, below_alloc _ _⟩
set_option maxRecDepth 100000 in
set_option maxHeartbeats 4000000 in
theorem signsOf_n (X Y : Int) (w : World) (h1 : (X == 1 && Y == 1) = false) (h2 : (X == 1 && Y == 3) = false) (h3 : (X == 0 && Y == 1) = false) (h4 : (X == 0 && Y == 3) = false) (h5 : (X == 0 && Y == 7) = false) :
    Calls Tryd.prog 55 #[.agg #[.int .i64 X, .int .i64 Y]] w fun e w' => e = .returned (.tuple #[.string ByteArray.empty, .bool false]) ∧ Below w.heap.size w w' := by
  have q1 := eqPair_b (w := w.alloc (.cells #[.int .i64 X, .int .i64 Y] 48)) h1
  have q2 := eqPair_b (w := w.alloc (.cells #[.int .i64 X, .int .i64 Y] 48)) h2
  have q3 := eqPair_b (w := w.alloc (.cells #[.int .i64 X, .int .i64 Y] 48)) h3
  have q4 := eqPair_b (w := w.alloc (.cells #[.int .i64 X, .int .i64 Y] 48)) h4
  have q5 := eqPair_b (w := w.alloc (.cells #[.int .i64 X, .int .i64 Y] 48)) h5
  clear h1 h2 h3 h4 h5
  go_enter Tryd.func55, Tryd.ntmps55
  go_wp2
  go_ret2
  exact ⟨rfl, below_alloc _ _⟩
theorem signsOf_yes (x y : Nat) (w : World) (h : runOk (x, y) = true) :
    Calls Tryd.prog 55 #[.agg #[.int .i64 x, .int .i64 y]] w fun e w' => e = .returned (.tuple #[.string ⟨(runSgn (x, y)).toArray⟩, .bool true]) ∧ Below w.heap.size w w' := by
  have hc : (x = 1 ∧ y = 1) ∨ (x = 1 ∧ y = 3) ∨ (x = 0 ∧ y = 1) ∨ (x = 0 ∧ y = 3) ∨ (x = 0 ∧ y = 7) := by
    simp only [runOk, Bool.or_eq_true, Bool.and_eq_true, beq_iff_eq] at h
    omega
  refine signsOf_y x y (runSgn (x, y)) w ?_
  rcases hc with ⟨rfl, rfl⟩ | ⟨rfl, rfl⟩ | ⟨rfl, rfl⟩ | ⟨rfl, rfl⟩ | ⟨rfl, rfl⟩ <;> simp [runSgn]
theorem signsOf_no (x y : Nat) (w : World) (h : runOk (x, y) = false) :
    Calls Tryd.prog 55 #[.agg #[.int .i64 x, .int .i64 y]] w fun e w' => e = .returned (.tuple #[.string ByteArray.empty, .bool false]) ∧ Below w.heap.size w w' := by
  have e : ∀ (c d : Nat), ¬ (x = c ∧ y = d) → (((x : Int) == (c : Int)) && ((y : Int) == (d : Int))) = false := fun c d hn => by
    rw [Bool.and_eq_false_iff, beq_eq_false_iff_ne, beq_eq_false_iff_ne]
    omega
  simp only [runOk, Bool.or_eq_false_iff, Bool.and_eq_false_iff, beq_eq_false_iff_ne] at h
  exact signsOf_n x y w (e 1 1 (by omega)) (e 1 3 (by omega)) (e 0 1 (by omega)) (e 0 3 (by omega)) (e 0 7 (by omega))
end Go.Proofs.YtijhfmjkiijhiaaDoor
