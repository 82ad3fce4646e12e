/-
  DelayLine and StretchLine, the program's and the model's: both answer alike. Used by the claims on chapter 4.
-/
import Derived.Test.YtijhfmjkiijhiaaDoorLineX
import Derived.Test.YtijhfmjkiijhiaaDoorRepW
namespace Go.Proofs.YtijhfmjkiijhiaaDoor
open Go.RowKit
set_option linter.unusedVariables false

/-! ### DelayLine -/
def delL (l : Bs) (n : Nat) : Bs := List.replicate n 48 ++ l
theorem cat_del (s : ByteArray) (n : Nat) : (⟨(reps n 48).toArray⟩ : ByteArray) ++ s = ⟨(delL (bl s) n).toArray⟩ := catB _ _
theorem delayLine_no (s : ByteArray) (n : Int) (w : World) (hs : s.size ≤ 1048576) (wn : (Lit.int .i64 n).wf = true) (h : ¬ (lineL (bl s) = true ∧ 0 ≤ n ∧ n + s.size ≤ 200)) :
    Calls Tryd.prog 28 #[.string s, .int .i64 n] w fun e w' => e = .returned (.tuple #[.string ByteArray.empty, .bool false]) ∧ Below w.heap.size w w' := by
  cases h1 : lineL (bl s)
  · have HA := isLine_is s false hs h1
    clear h h1
    go_enter Tryd.func28, Tryd.ntmps28
    go_wp2_with fail
    refine (HA.out _).mono ?_
    rintro e w1 ⟨rfl, hb1⟩
    have HB := Lib.hid hb1
    clear hb1
    go_wp2
    (first | go_ret | go_ret2)
    exact ⟨rfl, HB.out⟩
  · have HA := isLine_is s true hs h1
    have la : s.size ≤ 200 := by have := line_len h1; rwa [bl_len] at this
    have hn : n < 0 ∨ ¬ n < 0 ∧ (200 : Int) - (s.size : Int) < n := by
      have h2 : ¬ (0 ≤ n ∧ n + s.size ≤ 200) := fun e => h ⟨h1, e⟩
      omega
    have q0 : (0 : Int) ≤ (s.size : Int) := by omega
    clear h h1
    rcases hn with hn | ⟨hn, hn2⟩
    all_goals (
      go_enter Tryd.func28, Tryd.ntmps28
      go_wp2_with fail
      refine (HA.out _).mono ?_
      rintro e w1 ⟨rfl, hb1⟩
      have HB := Lib.hid hb1
      clear hb1
      go_wp2
      (first | go_ret | go_ret2)
      exact ⟨rfl, HB.out⟩)
theorem delayLine_yes (s : ByteArray) (n : Nat) (w : World) (hs : s.size ≤ 1048576) (h1 : lineL (bl s) = true) (h2 : n + s.size ≤ 200) :
    Calls Tryd.prog 28 #[.string s, .int .i64 n] w fun e w' => e = .returned (.tuple #[.string ⟨(delL (bl s) n).toArray⟩, .bool true]) ∧ Below w.heap.size w w' := by
  have HA := isLine_is s true hs h1
  have HR := Lib.hid fun w => repeat_any ⟨#[48]⟩ 48 n w rfl (by omega)
  have HC := Lib.hid (cat_del s n)
  have hn0 : ¬ (n : Int) < 0 := by omega
  have hn1 : (n : Int) ≤ 200 - (s.size : Int) := by omega
  have hn2 : ¬ (200 : Int) - (s.size : Int) < (n : Int) := by omega
  have p1 : ¬ 9223372036854775807 < (reps n 48).length + s.size := by rw [reps, List.length_replicate]; omega
  clear h1
  go_enter Tryd.func28, Tryd.ntmps28
  go_wp2_with fail
  refine (HA.out _).mono ?_
  rintro e w1 ⟨rfl, hb1⟩
  have HB := Lib.hid hb1
  clear hb1
  go_wp2_with fail
  refine (HR.out _).mono ?_
  rintro e w2 ⟨rfl, hb2⟩
  have HB2 := Lib.hid (HB.out.trans (hb2.mono HB.out.size))
  clear hb2
  go_wp2
  (first | go_ret | go_ret2)
  exact ⟨by first | (rw [HC.out]; rfl) | rw [HC.out], HB2.out⟩
theorem sDelayLine_no (s : ByteArray) (n : Int) (w : World) (hs : s.size ≤ 1048576) (wn : (Lit.int .i64 n).wf = true) (h : ¬ (lineL (bl s) = true ∧ 0 ≤ n ∧ n + s.size ≤ 200)) :
    Calls Tryd.prog 27 #[.string s, .int .i64 n] w fun e w' => e = .returned (.tuple #[.string ByteArray.empty, .bool false]) ∧ Below w.heap.size w w' := by
  cases h1 : lineL (bl s)
  · have HA := sLine_is s false hs h1
    clear h h1
    go_enter Tryd.func27, Tryd.ntmps27
    go_wp2_with fail
    refine (HA.out _).mono ?_
    rintro e w1 ⟨rfl, hb1⟩
    have HB := Lib.hid hb1
    clear hb1
    go_wp2
    (first | go_ret | go_ret2)
    exact ⟨rfl, HB.out⟩
  · have HA := sLine_is s true hs h1
    have la : s.size ≤ 200 := by have := line_len h1; rwa [bl_len] at this
    have HI : Hid (∀ w, Calls Tryd.prog 62 #[.int .i64 n, .int .i64 0, .int .i64 (200 - (s.size : Int))] w fun e w' => e = .returned (.bool false) ∧ w' = w) := Lib.hid fun w => (in_any n 0 (200 - (s.size : Int)) w).mono fun e w' ⟨h3, h4⟩ => ⟨by
      rw [h3]
      have h2 : ¬ (0 ≤ n ∧ n + s.size ≤ 200) := fun e => h ⟨h1, e⟩
      by_cases h5 : 0 ≤ n
      · have e2 : decide (n ≤ 200 - (s.size : Int)) = false := decide_eq_false (by omega)
        rw [e2, Bool.and_false]
      · have e2 : decide (0 ≤ n) = false := decide_eq_false h5
        rw [e2, Bool.false_and], h4⟩
    have q0 : (0 : Int) ≤ (s.size : Int) := by omega
    clear h h1 wn
    go_enter Tryd.func27, Tryd.ntmps27
    go_wp2_with fail
    refine (HA.out _).mono ?_
    rintro e w1 ⟨rfl, hb1⟩
    have HB := Lib.hid hb1
    clear hb1
    go_wp2_with fail
    refine (HI.out _).mono ?_
    rintro e w2 ⟨rfl, rfl⟩
    go_wp2
    (first | go_ret | go_ret2)
    exact ⟨rfl, HB.out⟩
theorem sDelayLine_yes (s : ByteArray) (n : Nat) (w : World) (hs : s.size ≤ 1048576) (h1 : lineL (bl s) = true) (h2 : n + s.size ≤ 200) :
    Calls Tryd.prog 27 #[.string s, .int .i64 n] w fun e w' => e = .returned (.tuple #[.string ⟨(delL (bl s) n).toArray⟩, .bool true]) ∧ Below w.heap.size w w' := by
  have HA := sLine_is s true hs h1
  have HI : Hid (∀ w, Calls Tryd.prog 62 #[.int .i64 n, .int .i64 0, .int .i64 (200 - (s.size : Int))] w fun e w' => e = .returned (.bool true) ∧ w' = w) := Lib.hid fun w => (in_any n 0 (200 - (s.size : Int)) w).mono fun e w' ⟨h3, h4⟩ => ⟨by
    rw [h3]
    have e1 : decide ((0 : Int) ≤ (n : Int)) = true := decide_eq_true (by omega)
    have e2 : decide ((n : Int) ≤ 200 - (s.size : Int)) = true := decide_eq_true (by omega)
    rw [e1, e2]; rfl, h4⟩
  have HR : Hid (∀ w, Calls Tryd.prog 63 #[.string ⟨#[48]⟩, .int .i64 n] w fun e w' => e = .returned (.string ⟨(reps n 48).toArray⟩) ∧ w' = w) := Lib.hid fun w => by
    have := sMany_any ⟨#[48]⟩ 48 (n : Int) w rfl (by omega)
    rwa [Int.toNat_natCast] at this
  have HC := Lib.hid (cat_del s n)
  have la : s.size ≤ 200 := by omega
  have q0 : (0 : Int) ≤ (s.size : Int) := by omega
  have p1 : ¬ 9223372036854775807 < (reps n 48).length + s.size := by rw [reps, List.length_replicate]; omega
  clear h1
  go_enter Tryd.func27, Tryd.ntmps27
  go_wp2_with fail
  refine (HA.out _).mono ?_
  rintro e w1 ⟨rfl, hb1⟩
  have HB := Lib.hid hb1
  clear hb1
  go_wp2_with fail
  refine (HI.out _).mono ?_
  rintro e w2 ⟨rfl, rfl⟩
  go_wp2_with fail
  refine (HR.out _).mono ?_
  rintro e w2 ⟨rfl, rfl⟩
  go_wp2
  (first | go_ret | go_ret2)
  exact ⟨by first | (rw [HC.out]; rfl) | rw [HC.out], HB.out⟩
theorem delayLine_both (s : ByteArray) (n : Int) (hs : s.size ≤ 1048576) (wn : (Lit.int .i64 n).wf = true) : ∃ (R0 : ByteArray) (R1 : Bool),
    Hid (∀ W, Calls Tryd.prog 27 #[.string s, .int .i64 n] W fun e W' => e = .returned (.tuple #[.string R0, .bool R1]) ∧ Below W.heap.size W W') ∧
    Hid (∀ W, Calls Tryd.prog 28 #[.string s, .int .i64 n] W fun e W' => e = .returned (.tuple #[.string R0, .bool R1]) ∧ Below W.heap.size W W') := by
  by_cases h : lineL (bl s) = true ∧ 0 ≤ n ∧ n + s.size ≤ 200
  · obtain ⟨h1, h2, h3⟩ := h
    obtain ⟨k, rfl⟩ : ∃ k : Nat, n = k := ⟨n.toNat, by omega⟩
    exact ⟨_, _, fun W => sDelayLine_yes s k W hs h1 (by omega), fun W => delayLine_yes s k W hs h1 (by omega)⟩
  · exact ⟨_, _, fun W => sDelayLine_no s n W hs wn h, fun W => delayLine_no s n W hs wn h⟩
end Go.Proofs.YtijhfmjkiijhiaaDoor
