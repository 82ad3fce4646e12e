/-
  StepsOf of the program and of the model. Used by the claim on StepsOf.
-/
import Derived.Test.YtiialbnfgichhaaIjW
namespace Go.Proofs.Ytiialbnfgichhaa
open Go.RowKit
set_option linter.unusedVariables false
def stR (n : Int) (j : Jb) : Int := if rowOk n && jobOk n j then stp j else 0

set_option maxHeartbeats 2000000 in
set_option maxRecDepth 8000 in
theorem stepsP_any (n : Int) (j : Jb) (w : World) : Calls Try.prog 20 #[.int .i64 n, .agg #[.int .i64 j.fr, .int .i64 j.to, .int .i64 j.sp, .int .i64 j.st]] w fun e w' => e = .returned (.tuple #[.int .i64 (stR n j), .bool (rowOk n && jobOk n j)]) ∧ Below w.heap.size w w' := by
  have HT := Lib.hid (jbB_new 26 w j)
  have l1 := load_jbBI HT.out
  have HB := Lib.hid (below_alloc w (.cells #[.int .i64 j.fr, .int .i64 j.to, .int .i64 j.sp, .int .i64 j.st] 26))
  have F1 := Lib.hid fun W => iRow_any n W
  have F2 := Lib.hid fun (h : rowOk n = true) W => isJob_any n (rowOk_iff.1 h).1 (rowOk_iff.1 h).2 j W
  have F4 := Lib.hid fun (h : rowOk n = true) (h2 : jobOk n j = true) W => steps_any n j (jobOk_iff.1 h2) (rowOk_iff.1 h).2 W
  unfold stR
  generalize hb : rowOk n = b at F1 F2 F4 ⊢
  clear hb
  cases b with
  | false =>
    rw [Bool.false_and]
    go_enter Try.func20, Try.ntmps20
    go_wp2_with fail
    refine (F1.out _).mono ?_
    rintro e w1 ⟨rfl, hww⟩
    obtain rfl := hww.symm
    go_wp2
    go_ret2
    exact ⟨rfl, HB.out⟩
  | true =>
    rw [Bool.true_and]
    have F3 := Lib.hid (F2.out rfl)
    have F5 := Lib.hid (F4.out rfl)
    clear F2 F4
    generalize hb : jobOk n j = b at F3 F5 ⊢
    clear hb
    cases b with
    | false =>
      go_enter Try.func20, Try.ntmps20
      go_wp2_with fail
      refine (F1.out _).mono ?_
      rintro e w1 ⟨rfl, hww⟩
      obtain rfl := hww.symm
      go_wp2_with fail
      refine (F3.out _).mono ?_
      rintro e w2 ⟨rfl, hb⟩
      have HB2 := Lib.hid (HB.out.trans (hb.mono HB.out.size))
      clear hb l1
      go_wp2
      go_ret2
      exact ⟨rfl, HB2.out⟩
    | true =>
      have F6 := Lib.hid (F5.out rfl)
      clear F5
      rw [if_pos rfl]
      go_enter Try.func20, Try.ntmps20
      go_wp2_with fail
      refine (F1.out _).mono ?_
      rintro e w1 ⟨rfl, hww⟩
      obtain rfl := hww.symm
      go_wp2_with fail
      refine (F3.out _).mono ?_
      rintro e w2 ⟨rfl, hb⟩
      have HB2 := Lib.hid (HB.out.trans (hb.mono HB.out.size))
      have q0 := (HT.out.below hb).cell0
      have q1 := (HT.out.below hb).cell1
      have q2 := (HT.out.below hb).cell2
      have q3 := (HT.out.below hb).cell3
      clear hb l1
      go_wp2_with fail
      refine (F6.out _).mono ?_
      rintro e w3 ⟨rfl, hb⟩
      have HB3 := Lib.hid (HB2.out.trans (hb.mono HB2.out.size))
      clear hb q0 q1 q2 q3
      go_wp2
      go_ret2
      exact ⟨rfl, HB3.out⟩

set_option maxHeartbeats 2000000 in
set_option maxRecDepth 8000 in
theorem sStepsOf_any (n : Int) (j : Jb) (w : World) : Calls Try.prog 19 #[.int .i64 n, .agg #[.int .i64 j.fr, .int .i64 j.to, .int .i64 j.sp, .int .i64 j.st]] w fun e w' => e = .returned (.tuple #[.int .i64 (stR n j), .bool (rowOk n && jobOk n j)]) ∧ Below w.heap.size w w' := by
  have HT := Lib.hid (jbB_new 26 w j)
  have l1 := load_jbBI HT.out
  have HB := Lib.hid (below_alloc w (.cells #[.int .i64 j.fr, .int .i64 j.to, .int .i64 j.sp, .int .i64 j.st] 26))
  have F1 := Lib.hid fun W => sRow_any n W
  have F2 := Lib.hid fun (h : rowOk n = true) W => sJob_any n (rowOk_iff.1 h).1 (rowOk_iff.1 h).2 j W
  have F4 := Lib.hid fun (h : rowOk n = true) (h2 : jobOk n j = true) W => sSteps_any n j (jobOk_iff.1 h2) (rowOk_iff.1 h).2 W
  unfold stR
  generalize hb : rowOk n = b at F1 F2 F4 ⊢
  clear hb
  cases b with
  | false =>
    rw [Bool.false_and]
    go_enter Try.func19, Try.ntmps19
    go_wp2_with fail
    refine (F1.out _).mono ?_
    rintro e w1 ⟨rfl, hww⟩
    obtain rfl := hww.symm
    go_wp2
    go_ret2
    exact ⟨rfl, HB.out⟩
  | true =>
    rw [Bool.true_and]
    have F3 := Lib.hid (F2.out rfl)
    have F5 := Lib.hid (F4.out rfl)
    clear F2 F4
    generalize hb : jobOk n j = b at F3 F5 ⊢
    clear hb
    cases b with
    | false =>
      go_enter Try.func19, Try.ntmps19
      go_wp2_with fail
      refine (F1.out _).mono ?_
      rintro e w1 ⟨rfl, hww⟩
      obtain rfl := hww.symm
      go_wp2_with fail
      refine (F3.out _).mono ?_
      rintro e w2 ⟨rfl, hb⟩
      have HB2 := Lib.hid (HB.out.trans (hb.mono HB.out.size))
      clear hb l1
      go_wp2
      go_ret2
      exact ⟨rfl, HB2.out⟩
    | true =>
      have F6 := Lib.hid (F5.out rfl)
      clear F5
      rw [if_pos rfl]
      go_enter Try.func19, Try.ntmps19
      go_wp2_with fail
      refine (F1.out _).mono ?_
      rintro e w1 ⟨rfl, hww⟩
      obtain rfl := hww.symm
      go_wp2_with fail
      refine (F3.out _).mono ?_
      rintro e w2 ⟨rfl, hb⟩
      have HB2 := Lib.hid (HB.out.trans (hb.mono HB.out.size))
      have q0 := (HT.out.below hb).cell0
      have q1 := (HT.out.below hb).cell1
      have q2 := (HT.out.below hb).cell2
      have q3 := (HT.out.below hb).cell3
      clear hb l1
      go_wp2_with fail
      refine (F6.out _).mono ?_
      rintro e w3 ⟨rfl, hb⟩
      have HB3 := Lib.hid (HB2.out.trans (hb.mono HB2.out.size))
      clear hb q0 q1 q2 q3
      go_wp2
      go_ret2
      exact ⟨rfl, HB3.out⟩

theorem stepsOf_both (j : Jb) (n : Int) : ∃ (R0 : Int) (R1 : Bool), Hid (∀ W, Calls Try.prog 19 #[.int .i64 n, .agg #[.int .i64 j.fr, .int .i64 j.to, .int .i64 j.sp, .int .i64 j.st]] W fun e w' => e = .returned (.tuple #[.int .i64 R0, .bool R1]) ∧ Below W.heap.size W w') ∧ Hid (∀ W, Calls Try.prog 20 #[.int .i64 n, .agg #[.int .i64 j.fr, .int .i64 j.to, .int .i64 j.sp, .int .i64 j.st]] W fun e w' => e = .returned (.tuple #[.int .i64 R0, .bool R1]) ∧ Below W.heap.size W w') :=
  ⟨_, _, Lib.hid fun W => sStepsOf_any n j W, Lib.hid fun W => stepsP_any n j W⟩
end Go.Proofs.Ytiialbnfgichhaa
