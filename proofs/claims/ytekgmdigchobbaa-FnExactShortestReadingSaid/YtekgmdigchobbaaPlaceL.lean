/-
  placesWhere, BordersOf, CertainBorders of the program. Used by the claims on chapter 3.
-/
import Derived.Test.YtekgmdigchobbaaBefS
import Derived.Test.YtekgmdigchobbaaSeqW
namespace Go.Proofs.Ytekgmdigchobbaa
open Go.RowKit
set_option linter.unusedVariables false

theorem rowIs_grown {w w' : World} {o : Obj} {b : Nat} {t : TypeId} {n : Nat} {f : Nat → Value} {q : Option Nat} (h : w.rowIs b t n f) (hg : (w.alloc o).grownBy w' q) (hne : q ≠ some b) : w'.rowIs b t n f := by
  obtain ⟨c, h1, h2, h3⟩ := h
  have hlt := (Array.getElem?_eq_some_iff.1 h1).1
  refine ⟨c, ?_, h2, h3⟩
  rw [hg.block b (by simp; omega) (fun e => hne e.symm), Below.heap_alloc _ _ _ hlt]
  exact h1

def midAt (xs : List ByteArray) (s : ByteArray) (j : Nat) : Nat := befAt xs s j * wayAt xs s j
def keepP (xs : List ByteArray) (s : ByteArray) (all : Bool) (j : Nat) : Bool := decide (0 < midAt xs s j) && (!all || decide (midAt xs s j = wayAt xs s 0))
def placesL (xs : List ByteArray) (s : ByteArray) (all : Bool) (k : Nat) : List Nat := (List.range k).filter (keepP xs s all)
theorem placesL_succ (xs : List ByteArray) (s : ByteArray) (all : Bool) (k : Nat) : placesL xs s all (k + 1) = placesL xs s all k ++ (if keepP xs s all k = true then [k] else []) := by
  unfold placesL
  rw [List.range_succ, List.filter_append]
  by_cases h : keepP xs s all k = true <;> simp [h]
theorem placesL_le (xs : List ByteArray) (s : ByteArray) (all : Bool) (k : Nat) : (placesL xs s all k).length ≤ k := by
  have := List.length_filter_le (keepP xs s all) (List.range k)
  rwa [List.length_range] at this
/-- What both answer. -/
def placesR (xs : List ByteArray) (s : ByteArray) (all : Bool) : List Nat × Bool := if goodB xs s = true then (placesL xs s all (s.size + 1), true) else ([], false)

theorem cl_all (r n : Nat) (w : World) : Calls Try.prog 119 #[.int .i64 r, .int .i64 n] w fun e w' => e = .returned (.bool (decide (0 < r) && (!false || decide (r = n)))) ∧ w' = w := by
  by_cases h : 0 < r
  · have HD : Hid ((decide (0 < r) && (!false || decide (r = n))) = true) := Lib.hid (by simp [h])
    have e1 : (0 : Int) < (r : Int) := by omega
    rw [HD.out]
    go_enter Try.func119, Try.ntmps119
    go_wp2
    go_ret
    exact ⟨rfl, rfl⟩
  · have HD : Hid ((decide (0 < r) && (!false || decide (r = n))) = false) := Lib.hid (by simp [h])
    obtain rfl : r = 0 := by omega
    rw [HD.out]
    go_enter Try.func119, Try.ntmps119
    go_wp2
    go_ret
    exact ⟨rfl, rfl⟩
theorem cl_sure (r n : Nat) (w : World) : Calls Try.prog 121 #[.int .i64 r, .int .i64 n] w fun e w' => e = .returned (.bool (decide (0 < r) && (!true || decide (r = n)))) ∧ w' = w := by
  by_cases h : 0 < r
  · have e1 : (0 : Int) < (r : Int) := by omega
    by_cases h2 : r = n
    · have HD : Hid ((decide (0 < r) && (!true || decide (r = n))) = true) := Lib.hid (by simp [h2]; omega)
      have e2 : ((r : Int) == (n : Int)) = true := by simp; omega
      rw [HD.out]
      go_enter Try.func121, Try.ntmps121
      go_wp2
      go_ret
      exact ⟨rfl, rfl⟩
    · have HD : Hid ((decide (0 < r) && (!true || decide (r = n))) = false) := Lib.hid (by simp [h2])
      have e2 : ((r : Int) == (n : Int)) = false := beq_false_of_ne (by omega)
      rw [HD.out]
      go_enter Try.func121, Try.ntmps121
      go_wp2
      go_ret
      exact ⟨rfl, rfl⟩
  · have HD : Hid ((decide (0 < r) && (!true || decide (r = n))) = false) := Lib.hid (by simp [h])
    obtain rfl : r = 0 := by omega
    rw [HD.out]
    go_enter Try.func121, Try.ntmps121
    go_wp2
    go_ret
    exact ⟨rfl, rfl⟩

end Go.Proofs.Ytekgmdigchobbaa
