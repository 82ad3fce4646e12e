/-
  isJob, IsJob, StepsOf of the program and of the model, areJobs and l10Good. Used by the claims on chapter 10.
-/
import Derived.Test.YtiialbnfgichhaaJobW
namespace Go.Proofs.Ytiialbnfgichhaa
open Go.RowKit
set_option linter.unusedVariables false

theorem in3_any (x a b : Int) (w : World) : Calls Try.prog 90 #[.int .i64 x, .int .i64 a, .int .i64 b] w fun e w' => e = .returned (.bool (decide (a ≤ x) && decide (x ≤ b))) ∧ w' = w := by
  by_cases h1 : a ≤ x
  rotate_left
  · skip
    have HD : Hid ((decide (a ≤ x) && decide (x ≤ b)) = false) := Lib.hid (by simp [h1])
    rw [HD.out]
    go_enter Try.func90, Try.ntmps90
    go_wp2
    go_ret
    exact ⟨rfl, rfl⟩
  by_cases h2 : x ≤ b
  · skip
    have HD : Hid ((decide (a ≤ x) && decide (x ≤ b)) = true) := Lib.hid (by simp [h1, h2])
    rw [HD.out]
    go_enter Try.func90, Try.ntmps90
    go_wp2
    go_ret
    exact ⟨rfl, rfl⟩
  · skip
    have HD : Hid ((decide (a ≤ x) && decide (x ≤ b)) = false) := Lib.hid (by simp [h2])
    rw [HD.out]
    go_enter Try.func90, Try.ntmps90
    go_wp2
    go_ret
    exact ⟨rfl, rfl⟩
theorem inRow_any (n s : Int) (w : World) : Calls Try.prog 105 #[.int .i64 n, .int .i64 s] w fun e w' => e = .returned (.bool (decide (0 ≤ s) && decide (s < n))) ∧ w' = w := by
  by_cases h1 : 0 ≤ s
  rotate_left
  · skip
    have HD : Hid ((decide (0 ≤ s) && decide (s < n)) = false) := Lib.hid (by simp [h1])
    rw [HD.out]
    go_enter Try.func105, Try.ntmps105
    go_wp2
    go_ret
    exact ⟨rfl, rfl⟩
  by_cases h2 : s < n
  · skip
    have HD : Hid ((decide (0 ≤ s) && decide (s < n)) = true) := Lib.hid (by simp [h1, h2])
    rw [HD.out]
    go_enter Try.func105, Try.ntmps105
    go_wp2
    go_ret
    exact ⟨rfl, rfl⟩
  · skip
    have HD : Hid ((decide (0 ≤ s) && decide (s < n)) = false) := Lib.hid (by simp [h2])
    rw [HD.out]
    go_enter Try.func105, Try.ntmps105
    go_wp2
    go_ret
    exact ⟨rfl, rfl⟩
theorem span_any (s : Int) (w : World) : Calls Try.prog 91 #[.int .i64 s] w fun e w' => e = .returned (.bool (decide (1 ≤ s) && decide (s ≤ 60))) ∧ w' = w := by
  by_cases h1 : 1 ≤ s
  rotate_left
  · skip
    have HD : Hid ((decide (1 ≤ s) && decide (s ≤ 60)) = false) := Lib.hid (by simp [h1])
    rw [HD.out]
    go_enter Try.func91, Try.ntmps91
    go_wp2
    go_ret
    exact ⟨rfl, rfl⟩
  by_cases h2 : s ≤ 60
  · skip
    have HD : Hid ((decide (1 ≤ s) && decide (s ≤ 60)) = true) := Lib.hid (by simp [h1, h2])
    rw [HD.out]
    go_enter Try.func91, Try.ntmps91
    go_wp2
    go_ret
    exact ⟨rfl, rfl⟩
  · skip
    have HD : Hid ((decide (1 ≤ s) && decide (s ≤ 60)) = false) := Lib.hid (by simp [h2])
    rw [HD.out]
    go_enter Try.func91, Try.ntmps91
    go_wp2
    go_ret
    exact ⟨rfl, rfl⟩
theorem row_any (n : Int) (w : World) : Calls Try.prog 62 #[.int .i64 n] w fun e w' => e = .returned (.bool (decide (2 ≤ n) && decide (n ≤ 6))) ∧ w' = w := by
  by_cases h1 : 2 ≤ n
  rotate_left
  · skip
    have HD : Hid ((decide (2 ≤ n) && decide (n ≤ 6)) = false) := Lib.hid (by simp [h1])
    rw [HD.out]
    go_enter Try.func62, Try.ntmps62
    go_wp2
    go_ret
    exact ⟨rfl, rfl⟩
  by_cases h2 : n ≤ 6
  · skip
    have HD : Hid ((decide (2 ≤ n) && decide (n ≤ 6)) = true) := Lib.hid (by simp [h1, h2])
    rw [HD.out]
    go_enter Try.func62, Try.ntmps62
    go_wp2
    go_ret
    exact ⟨rfl, rfl⟩
  · skip
    have HD : Hid ((decide (2 ≤ n) && decide (n ≤ 6)) = false) := Lib.hid (by simp [h2])
    rw [HD.out]
    go_enter Try.func62, Try.ntmps62
    go_wp2
    go_ret
    exact ⟨rfl, rfl⟩
theorem sRow_any (n : Int) (w : World) : Calls Try.prog 60 #[.int .i64 n] w fun e w' => e = .returned (.bool (rowOk n)) ∧ w' = w := by
  have F := Lib.hid fun W => in3_any n 2 6 W
  unfold rowOk
  generalize (decide (2 ≤ n) && decide (n ≤ 6)) = b at F ⊢
  go_enter Try.func60, Try.ntmps60
  go_wp2_with fail
  refine (F.out _).mono ?_
  rintro e w1 ⟨rfl, hww⟩
  obtain rfl := hww.symm
  go_wp2
  go_ret
  exact ⟨rfl, rfl⟩
theorem iRow_any (n : Int) (w : World) : Calls Try.prog 62 #[.int .i64 n] w fun e w' => e = .returned (.bool (rowOk n)) ∧ w' = w := row_any n w

set_option maxHeartbeats 4000000 in
theorem isJob_any (n : Int) (hn : 2 ≤ n) (hn6 : n ≤ 6) (j : Jb) (w : World) : Calls Try.prog 63 #[.int .i64 n, .agg #[.int .i64 j.fr, .int .i64 j.to, .int .i64 j.sp, .int .i64 j.st]] w fun e w' => e = .returned (.bool (jobOk n j)) ∧ Below w.heap.size w w' := by
  have hT := jbB_new 26 w j
  have c0 := hT.cell0
  have c1 := hT.cell1
  have c2 := hT.cell2
  have c3 := hT.cell3
  have HB := Lib.hid (below_alloc w (.cells #[.int .i64 j.fr, .int .i64 j.to, .int .i64 j.sp, .int .i64 j.st] 26))
  clear hT
  unfold jobOk
  obtain ⟨fr, to, sp, st⟩ := j
  dsimp only at c0 c1 c2 c3 HB ⊢
  have F1 := Lib.hid fun W => inRow_any n fr W
  have F2 := Lib.hid fun W => inRow_any n to W
  have F3 := Lib.hid fun W => span_any sp W
  generalize (decide (0 ≤ fr) && decide (fr < n)) = b1 at F1 ⊢
  generalize (decide (0 ≤ to) && decide (to < n)) = b2 at F2 ⊢
  generalize (decide (1 ≤ sp) && decide (sp ≤ 60)) = b3 at F3 ⊢
  cases b1 with
  | false =>
    rw [Bool.false_and]
    go_enter Try.func63, Try.ntmps63
    go_wp2_with fail
    refine (F1.out _).mono ?_
    rintro e w1 ⟨rfl, hww⟩
    obtain rfl := hww.symm
    go_wp2
    go_ret
    exact ⟨rfl, HB.out⟩
  | true =>
  rw [Bool.true_and]
  cases b2 with
  | false =>
    rw [Bool.false_and]
    go_enter Try.func63, Try.ntmps63
    go_wp2_with fail
    refine (F1.out _).mono ?_
    rintro e w1 ⟨rfl, hww⟩
    obtain rfl := hww.symm
    go_wp2_with fail
    refine (F2.out _).mono ?_
    rintro e w1 ⟨rfl, hww⟩
    obtain rfl := hww.symm
    go_wp2
    go_ret
    exact ⟨rfl, HB.out⟩
  | true =>
  rw [Bool.true_and]
  by_cases he : fr = to
  · subst he
    have hd : (!decide (fr = fr)) = false := by simp
    rw [hd, Bool.false_and]
    go_enter Try.func63, Try.ntmps63
    go_wp2_with fail
    refine (F1.out _).mono ?_
    rintro e w1 ⟨rfl, hww⟩
    obtain rfl := hww.symm
    go_wp2_with fail
    refine (F2.out _).mono ?_
    rintro e w1 ⟨rfl, hww⟩
    obtain rfl := hww.symm
    go_wp2
    go_ret
    exact ⟨rfl, HB.out⟩
  have hd : (!decide (fr = to)) = true := by simp [he]
  rw [hd, Bool.true_and]
  have hq : (fr == to) = false := beq_false_of_ne he
  clear hd he
  cases b3 with
  | false =>
    rw [Bool.false_and]
    go_enter Try.func63, Try.ntmps63
    go_wp2_with fail
    refine (F1.out _).mono ?_
    rintro e w1 ⟨rfl, hww⟩
    obtain rfl := hww.symm
    go_wp2_with fail
    refine (F2.out _).mono ?_
    rintro e w1 ⟨rfl, hww⟩
    obtain rfl := hww.symm
    go_wp2_with fail
    refine (F3.out _).mono ?_
    rintro e w1 ⟨rfl, hww⟩
    obtain rfl := hww.symm
    go_wp2
    go_ret
    exact ⟨rfl, HB.out⟩
  | true =>
  rw [Bool.true_and]
  by_cases h4 : 0 ≤ st
  rotate_left
  · have hd : decide (0 ≤ st) = false := decide_eq_false h4
    rw [hd, Bool.false_and]
    clear hd
    go_enter Try.func63, Try.ntmps63
    go_wp2_with fail
    refine (F1.out _).mono ?_
    rintro e w1 ⟨rfl, hww⟩
    obtain rfl := hww.symm
    go_wp2_with fail
    refine (F2.out _).mono ?_
    rintro e w1 ⟨rfl, hww⟩
    obtain rfl := hww.symm
    go_wp2_with fail
    refine (F3.out _).mono ?_
    rintro e w1 ⟨rfl, hww⟩
    obtain rfl := hww.symm
    go_wp2
    go_ret
    exact ⟨rfl, HB.out⟩
  by_cases h5 : st ≤ 999
  · have hd : (decide (0 ≤ st) && decide (st ≤ 999)) = true := by simp [h4, h5]
    rw [hd]
    clear hd
    go_enter Try.func63, Try.ntmps63
    go_wp2_with fail
    refine (F1.out _).mono ?_
    rintro e w1 ⟨rfl, hww⟩
    obtain rfl := hww.symm
    go_wp2_with fail
    refine (F2.out _).mono ?_
    rintro e w1 ⟨rfl, hww⟩
    obtain rfl := hww.symm
    go_wp2_with fail
    refine (F3.out _).mono ?_
    rintro e w1 ⟨rfl, hww⟩
    obtain rfl := hww.symm
    go_wp2
    go_ret
    exact ⟨rfl, HB.out⟩
  · have hd : (decide (0 ≤ st) && decide (st ≤ 999)) = false := by simp [h5]
    rw [hd]
    clear hd
    have h6 : decide (st ≤ 999) = false := decide_eq_false h5
    go_enter Try.func63, Try.ntmps63
    go_wp2_with fail
    refine (F1.out _).mono ?_
    rintro e w1 ⟨rfl, hww⟩
    obtain rfl := hww.symm
    go_wp2_with fail
    refine (F2.out _).mono ?_
    rintro e w1 ⟨rfl, hww⟩
    obtain rfl := hww.symm
    go_wp2_with fail
    refine (F3.out _).mono ?_
    rintro e w1 ⟨rfl, hww⟩
    obtain rfl := hww.symm
    go_wp2
    go_ret
    exact ⟨rfl, HB.out⟩
set_option maxHeartbeats 4000000 in
theorem sJob_any (n : Int) (hn : 2 ≤ n) (hn6 : n ≤ 6) (j : Jb) (w : World) : Calls Try.prog 61 #[.int .i64 n, .agg #[.int .i64 j.fr, .int .i64 j.to, .int .i64 j.sp, .int .i64 j.st]] w fun e w' => e = .returned (.bool (jobOk n j)) ∧ Below w.heap.size w w' := by
  have hT := jbB_new 26 w j
  have c0 := hT.cell0
  have c1 := hT.cell1
  have c2 := hT.cell2
  have c3 := hT.cell3
  have HB := Lib.hid (below_alloc w (.cells #[.int .i64 j.fr, .int .i64 j.to, .int .i64 j.sp, .int .i64 j.st] 26))
  clear hT
  unfold jobOk
  obtain ⟨fr, to, sp, st⟩ := j
  dsimp only at c0 c1 c2 c3 HB ⊢
  have e1 : (decide (0 ≤ fr) && decide (fr < n)) = (decide (0 ≤ fr) && decide (fr ≤ n - 1)) := by congr 1; exact decide_eq_decide.2 (by omega)
  have e2 : (decide (0 ≤ to) && decide (to < n)) = (decide (0 ≤ to) && decide (to ≤ n - 1)) := by congr 1; exact decide_eq_decide.2 (by omega)
  rw [e1, e2]
  clear e1 e2
  have F1 := Lib.hid fun W => in3_any fr 0 (n - 1) W
  have F2 := Lib.hid fun W => in3_any to 0 (n - 1) W
  have F3 := Lib.hid fun W => in3_any sp 1 60 W
  have F4 := Lib.hid fun W => in3_any st 0 999 W
  generalize (decide (0 ≤ fr) && decide (fr ≤ n - 1)) = b1 at F1 ⊢
  generalize (decide (0 ≤ to) && decide (to ≤ n - 1)) = b2 at F2 ⊢
  generalize (decide (1 ≤ sp) && decide (sp ≤ 60)) = b3 at F3 ⊢
  generalize (decide (0 ≤ st) && decide (st ≤ 999)) = b4 at F4 ⊢
  cases b1 with
  | false =>
    rw [Bool.false_and]
    go_enter Try.func61, Try.ntmps61
    go_wp2_with fail
    refine (F1.out _).mono ?_
    rintro e w1 ⟨rfl, hww⟩
    obtain rfl := hww.symm
    go_wp2
    go_ret
    exact ⟨rfl, HB.out⟩
  | true =>
  rw [Bool.true_and]
  cases b2 with
  | false =>
    rw [Bool.false_and]
    go_enter Try.func61, Try.ntmps61
    go_wp2_with fail
    refine (F1.out _).mono ?_
    rintro e w1 ⟨rfl, hww⟩
    obtain rfl := hww.symm
    go_wp2_with fail
    refine (F2.out _).mono ?_
    rintro e w1 ⟨rfl, hww⟩
    obtain rfl := hww.symm
    go_wp2
    go_ret
    exact ⟨rfl, HB.out⟩
  | true =>
  rw [Bool.true_and]
  by_cases he : fr = to
  · subst he
    have hd : (!decide (fr = fr)) = false := by simp
    rw [hd, Bool.false_and]
    go_enter Try.func61, Try.ntmps61
    go_wp2_with fail
    refine (F1.out _).mono ?_
    rintro e w1 ⟨rfl, hww⟩
    obtain rfl := hww.symm
    go_wp2_with fail
    refine (F2.out _).mono ?_
    rintro e w1 ⟨rfl, hww⟩
    obtain rfl := hww.symm
    go_wp2
    go_ret
    exact ⟨rfl, HB.out⟩
  have hd : (!decide (fr = to)) = true := by simp [he]
  rw [hd, Bool.true_and]
  have hq0 : (fr == to) = false := beq_false_of_ne he
  have hq : (fr != to) = true := by rw [bne, hq0]; rfl
  clear hd he
  cases b3 with
  | false =>
    rw [Bool.false_and]
    go_enter Try.func61, Try.ntmps61
    go_wp2_with fail
    refine (F1.out _).mono ?_
    rintro e w1 ⟨rfl, hww⟩
    obtain rfl := hww.symm
    go_wp2_with fail
    refine (F2.out _).mono ?_
    rintro e w1 ⟨rfl, hww⟩
    obtain rfl := hww.symm
    go_wp2_with fail
    refine (F3.out _).mono ?_
    rintro e w1 ⟨rfl, hww⟩
    obtain rfl := hww.symm
    go_wp2
    go_ret
    exact ⟨rfl, HB.out⟩
  | true =>
    rw [Bool.true_and]
    go_enter Try.func61, Try.ntmps61
    go_wp2_with fail
    refine (F1.out _).mono ?_
    rintro e w1 ⟨rfl, hww⟩
    obtain rfl := hww.symm
    go_wp2_with fail
    refine (F2.out _).mono ?_
    rintro e w1 ⟨rfl, hww⟩
    obtain rfl := hww.symm
    go_wp2_with fail
    refine (F3.out _).mono ?_
    rintro e w1 ⟨rfl, hww⟩
    obtain rfl := hww.symm
    go_wp2_with fail
    refine (F4.out _).mono ?_
    rintro e w1 ⟨rfl, hww⟩
    obtain rfl := hww.symm
    go_wp2
    go_ret
    exact ⟨rfl, HB.out⟩
set_option maxHeartbeats 2000000 in
theorem isJobP_any (n : Int) (j : Jb) (w : World) : Calls Try.prog 18 #[.int .i64 n, .agg #[.int .i64 j.fr, .int .i64 j.to, .int .i64 j.sp, .int .i64 j.st]] w fun e w' => e = .returned (.tuple #[.bool (rowOk n && jobOk n j), .bool (rowOk n)]) ∧ Below w.heap.size w w' := by
  have l1 := load_jbBI (jbB_new 26 w j)
  have HB := Lib.hid (below_alloc w (.cells #[.int .i64 j.fr, .int .i64 j.to, .int .i64 j.sp, .int .i64 j.st] 26))
  have F1 := Lib.hid fun W => iRow_any n W
  have F2 : Hid (rowOk n = true → ∀ W, Calls Try.prog _ _ W _) := Lib.hid fun h W => isJob_any n (rowOk_iff.1 h).1 (rowOk_iff.1 h).2 j W
  generalize rowOk n = b at F1 F2 ⊢
  cases b with
  | false =>
    rw [Bool.false_and]
    go_enter Try.func18, Try.ntmps18
    go_wp2_with fail
    refine (F1.out _).mono ?_
    rintro e w1 ⟨rfl, hww⟩
    obtain rfl := hww.symm
    go_wp2
    go_ret2
    exact ⟨rfl, HB.out⟩
  | true =>
    rw [Bool.true_and]
    have F3 := Lib.hid (F2.out rfl)
    go_enter Try.func18, Try.ntmps18
    go_wp2_with fail
    refine (F1.out _).mono ?_
    rintro e w1 ⟨rfl, hww⟩
    obtain rfl := hww.symm
    go_wp2_with fail
    refine (F3.out _).mono ?_
    rintro e w2 ⟨rfl, hb⟩
    have HB2 := Lib.hid (HB.out.trans (hb.mono HB.out.size))
    clear hb l1
    go_wp2
    go_ret2
    exact ⟨rfl, HB2.out⟩

set_option maxHeartbeats 2000000 in
theorem sIsJob_any (n : Int) (j : Jb) (w : World) : Calls Try.prog 16 #[.int .i64 n, .agg #[.int .i64 j.fr, .int .i64 j.to, .int .i64 j.sp, .int .i64 j.st]] w fun e w' => e = .returned (.tuple #[.bool (rowOk n && jobOk n j), .bool (rowOk n)]) ∧ Below w.heap.size w w' := by
  have l1 := load_jbBI (jbB_new 26 w j)
  have HB := Lib.hid (below_alloc w (.cells #[.int .i64 j.fr, .int .i64 j.to, .int .i64 j.sp, .int .i64 j.st] 26))
  have F1 := Lib.hid fun W => sRow_any n W
  have F2 : Hid (rowOk n = true → ∀ W, Calls Try.prog _ _ W _) := Lib.hid fun h W => sJob_any n (rowOk_iff.1 h).1 (rowOk_iff.1 h).2 j W
  generalize rowOk n = b at F1 F2 ⊢
  cases b with
  | false =>
    rw [Bool.false_and]
    go_enter Try.func16, Try.ntmps16
    go_wp2_with fail
    refine (F1.out _).mono ?_
    rintro e w1 ⟨rfl, hww⟩
    obtain rfl := hww.symm
    go_wp2
    go_ret2
    exact ⟨rfl, HB.out⟩
  | true =>
    rw [Bool.true_and]
    have F3 := Lib.hid (F2.out rfl)
    go_enter Try.func16, Try.ntmps16
    go_wp2_with fail
    refine (F1.out _).mono ?_
    rintro e w1 ⟨rfl, hww⟩
    obtain rfl := hww.symm
    go_wp2_with fail
    refine (F3.out _).mono ?_
    rintro e w2 ⟨rfl, hb⟩
    have HB2 := Lib.hid (HB.out.trans (hb.mono HB.out.size))
    clear hb l1
    go_wp2
    go_ret2
    exact ⟨rfl, HB2.out⟩

theorem isJob_both (j : Jb) (n : Int) : ∃ R0 R1 : Bool, Hid (∀ W, Calls Try.prog 16 #[.int .i64 n, .agg #[.int .i64 j.fr, .int .i64 j.to, .int .i64 j.sp, .int .i64 j.st]] W fun e w' => e = .returned (.tuple #[.bool R0, .bool R1]) ∧ Below W.heap.size W w') ∧ Hid (∀ W, Calls Try.prog 18 #[.int .i64 n, .agg #[.int .i64 j.fr, .int .i64 j.to, .int .i64 j.sp, .int .i64 j.st]] W fun e w' => e = .returned (.tuple #[.bool R0, .bool R1]) ∧ Below W.heap.size W w') :=
  ⟨_, _, Lib.hid fun W => sIsJob_any n j W, Lib.hid fun W => isJobP_any n j W⟩
set_option maxHeartbeats 2000000 in
theorem steps_any (n : Int) (j : Jb) (hv : JobV n j) (hn6 : n ≤ 6) (w : World) : Calls Try.prog 65 #[.agg #[.int .i64 j.fr, .int .i64 j.to, .int .i64 j.sp, .int .i64 j.st]] w fun e w' => e = .returned (.int .i64 (stp j)) ∧ Below w.heap.size w w' := by
  have hT := jbB_new 26 w j
  have c0 := hT.cell0
  have c1 := hT.cell1
  have HB := Lib.hid (below_alloc w (.cells #[.int .i64 j.fr, .int .i64 j.to, .int .i64 j.sp, .int .i64 j.st] 26))
  clear hT
  have := hv.fr0
  have := hv.fr1
  have := hv.to0
  have := hv.to1
  have hne := hv.ne
  clear hv
  unfold stp
  obtain ⟨fr, to, sp, st⟩ := j
  dsimp only at *
  by_cases h : fr < to
  · simp only [if_pos h]
    have hm : (max (to - fr) (fr - to) : Int) = to - fr := by omega
    go_enter Try.func65, Try.ntmps65
    go_wp2
    go_ret
    exact ⟨rfl, HB.out⟩
  · simp only [if_neg h]
    have hm : ¬ (fr - to ≤ to - fr) := by omega
    clear hne h
    go_enter Try.func65, Try.ntmps65
    go_wp2
    go_ret
    exact ⟨rfl, HB.out⟩

set_option maxHeartbeats 2000000 in
theorem sSteps_any (n : Int) (j : Jb) (hv : JobV n j) (hn6 : n ≤ 6) (w : World) : Calls Try.prog 64 #[.agg #[.int .i64 j.fr, .int .i64 j.to, .int .i64 j.sp, .int .i64 j.st]] w fun e w' => e = .returned (.tuple #[.int .i64 (stp j), .int .i64 (way j)]) ∧ Below w.heap.size w w' := by
  have hT := jbB_new 26 w j
  have c0 := hT.cell0
  have c1 := hT.cell1
  have HB := Lib.hid (below_alloc w (.cells #[.int .i64 j.fr, .int .i64 j.to, .int .i64 j.sp, .int .i64 j.st] 26))
  clear hT
  have := hv.fr0
  have := hv.fr1
  have := hv.to0
  have := hv.to1
  have hne := hv.ne
  clear hv
  unfold stp way
  obtain ⟨fr, to, sp, st⟩ := j
  dsimp only at *
  by_cases h : fr < to
  · simp only [if_pos h]
    go_enter Try.func64, Try.ntmps64
    go_wp2
    go_ret2
    exact ⟨rfl, HB.out⟩
  · simp only [if_neg h]
    go_enter Try.func64, Try.ntmps64
    go_wp2
    go_ret2
    exact ⟨rfl, HB.out⟩

end Go.Proofs.Ytiialbnfgichhaa
