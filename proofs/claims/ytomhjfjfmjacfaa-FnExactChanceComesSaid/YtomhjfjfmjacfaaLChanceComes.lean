/-
  FnExactChanceComes at the commit in COMMIT: for all arguments the law returns true and its arguments read as before: ChanceComes of the program answers as the model's ChanceComes. No condition beyond the row's own cells.
-/
import Derived.Test.YtomhjfjfmjacfaaRows
import Derived.WalkKit
import Derived.ProofKit
import Derived.OpenShut
import Derived.ShutString
import Derived.ChangeOld
import Derived.Below
import Derived.Test.YtomhjfjfmjacfaaFacts
import Derived.Test.YtomhjfjfmjacfaaNoiO
import Derived.Test.YtomhjfjfmjacfaaChB
import Derived.Deep.RegionWith
namespace Go.Proofs.Ytomhjfjfmjacfaa.fnExactChanceComes
open Go.ChangeShapes Go.WideShapes Go.ChangeAt Go.RowKit
open Go.ChangeMaps (open_string shut_string)
set_option linter.unusedVariables false

theorem own : ownKnob Try.prog.godebug = none := by kernel_rfl
theorem laidOut : laidOutB Try.prog = true := by kernel_rfl

set_option maxHeartbeats 1000000 in
set_option maxRecDepth 20000 in
theorem walk (a0 d0 : Int) (a1 : ByteArray) (a2 : ByteArray) (w : World) (w0 : (Lit.int .i64 a0).wf = true) (x0 : (Lit.int .i64 d0).wf = true) (w1 : a1.size ≤ maxLen) (w2 : a2.size ≤ maxLen) :
    Calls Try.prog 4 #[.agg #[.int .i64 a0, .int .i64 d0], .string a1, .string a2] w fun e w' => e = .returned (.bool true) ∧ Below w.heap.size w w' := by
  by_cases hs1 : a1.size ≤ 1048576
  rotate_left
  · have w12 := w1
    unfold maxLen at w12
    go_enter Try.func4, Try.ntmps4
    go_wp2
    go_ret
    exact ⟨rfl, below_alloc _ _⟩
  have w12 : a1.size ≤ 9223372036854775807 := by omega
  by_cases hs2 : a2.size ≤ 1048576
  rotate_left
  · have w22 := w2
    unfold maxLen at w22
    go_enter Try.func4, Try.ntmps4
    go_wp2
    go_ret
    exact ⟨rfl, below_alloc _ _⟩
  have w22 : a2.size ≤ 9223372036854775807 := by omega
  have HC := Lib.hid (carL_new w a0 d0)
  have l1 := load_noiL HC.out.noi
  have FT := Lib.hid fun W => toNoise_any a0 d0 W
  obtain ⟨R0, R2, R1, HSp, HIm⟩ := chanceComes_both a0 d0 a1 a2 hs1 hs2
  clear w0 x0
  go_enter Try.func4, Try.ntmps4
  go_wp2_with fail
  refine (FT.out _).mono ?_
  rintro e w3 ⟨rfl, hb⟩
  have HC1 := Lib.hid (HC.out.step hb)
  clear hb l1
  go_wp2_with fail
  refine (HSp.out _).mono ?_
  rintro e w4 ⟨rfl, hb⟩
  have HC2 := Lib.hid ((HC1.out.step hb).step (below_alloc w4 (.cells #[.int .i64 R0, .int .i64 R2] 28)))
  have HT2 := Lib.hid (two_new w4 R0 R2)
  have l2 := HC2.out.noi.cell0
  have l3 := HC2.out.noi.cell1
  clear hb
  go_wp2_with fail
  refine (FT.out _).mono ?_
  rintro e w5 ⟨rfl, hb⟩
  have HC3 := Lib.hid (HC2.out.step hb)
  have HT3 := Lib.hid (HT2.out.below hb)
  clear hb l2 l3
  go_wp2_with fail
  refine (HIm.out _).mono ?_
  rintro e w6 ⟨rfl, hb⟩
  have HC4 := Lib.hid ((HC3.out.step hb).step (below_alloc w6 (.cells #[.int .i64 R0, .int .i64 R2] 28)))
  have hT4 := (HT3.out.below hb).below (below_alloc w6 (.cells #[.int .i64 R0, .int .i64 R2] 28))
  have hG4 := two_new w6 R0 R2
  have l1 := load_two hT4
  have l2 := load_two hG4
  have l3 := hT4.cell0
  have l4 := hT4.cell1
  have l5 := hG4.cell0
  have l6 := hG4.cell1
  clear hb
  go_wp2_with fail
  refine (eqA2_yes R0 R2 _).mono ?_
  rintro e w7 ⟨rfl, hb⟩
  have HC5 := Lib.hid (HC4.out.step hb)
  clear l1 l2 l3 l4 l5 l6 hb hT4 hG4
  go_wp2
  go_ret
  exact ⟨rfl, HC5.out.below⟩

set_option maxRecDepth 100000 in
theorem lifted (os : Os) (started : os.Started) (H : Type) (enc : TypeId × Value → H) :
    ReturnsInHanded {} Try.checked os 4 .any (Rows.fnExactChanceComesSpec.pre6 enc Try.prog Try.f4 Rows.fnExactChanceComesRow.domain false) (Rows.fnExactChanceComesSpec.post enc Try.prog Try.f4 false true false false) := by
  refine returnsInHanded_of_change (C := Try.checked) own started (by kernel_rfl) Try.func4
    (ChangeSpec.witness6 (enc := enc) (C := Try.checked) false ⟨#[], #[.agg #[.int .i64 0, .int .i64 0], .string ByteArray.empty, .string ByteArray.empty], []⟩ 8 (by kernel_rfl) (by kernel_rfl) (by kernel_rfl) (by kernel_rfl)) ?_
  intro W base args ds gs before hval0 hW hcnd _
  have hval : ∀ (j : Nat) t v, Try.f4.params[j]? = some t → args[j]? = some v → Value.okWide Try.prog W .any base t v := hval0
  have hW' := hW
  obtain ⟨p, q, hA0, hV, rfl, hfz, hnd⟩ := hW
  have hA : DataW.TrodAll enc Try.prog W 0 (fun _ => true) true Try.f4.params.toList args.toList ds p := hA0
  rw [Try.params4] at hA hval
  obtain ⟨v0, vs0, d0, ds0, p0, q0, hargs, rfl, rfl, h0, r0⟩ := trodAll_cons hA
  obtain ⟨v1, vs1, d1, ds1, p1, q1, rfl, rfl, rfl, h1, r1⟩ := trodAll_cons r0
  obtain ⟨v2, vs2, d2, ds2, p2, q2, rfl, rfl, rfl, h2, r2⟩ := trodAll_cons r1
  obtain ⟨rfl, rfl, rfl⟩ := trodAll_nil r2
  obtain rfl : args = #[v0, v1, v2] := by cases args; simp_all
  obtain ⟨rfl, rfl⟩ := trodVars_none hV
  obtain ⟨cs0, rfl, _⟩ := okWide_struct Try.underlying23 (hval 0 23 v0 rfl rfl)
  have k0 := h0
  have lt0 : ∀ x ∈ p0, x.block < W.heap.size := by obtain ⟨m, hm⟩ := k0; exact DataW.trod_lt m _ _ _ hm
  obtain ⟨a0, n0, rfl, w0, x0⟩ := open_noi Try.underlying23 rfl rfl rfl rfl (by kernel_rfl) h0
  obtain ⟨a1, rfl, rfl, rfl, w1⟩ := open_string Try.underlying9 (hval 1 9 v1 rfl rfl) h1
  obtain ⟨a2, rfl, rfl, rfl, w2⟩ := open_string Try.underlying9 (hval 2 9 v2 rfl rfl) h2
  clear hA0 hval0
  refine (walk a0 n0 a1 a2 W w0 x0 w1 w2).mono fun e W' ⟨he, bel⟩ => ?_
  subst he
  exact ⟨_, rfl, _, _, _, [], _, [], hW', trodAll_mk1 (shut_bool Try.underlying4 _), (trodAll_cons_mk (Below.trod laidOut (by kernel_rfl) (of_decide_eq_true (by kernel_rfl)) k0 bel lt0) (trodAll_cons_mk (shut_string Try.underlying9 w1) (trodAll_cons_mk (shut_string Try.underlying9 w2) trodAll_mk0))), rfl, bel.frame _, fun h => by cases h⟩

theorem closed : joinedFacts Try.pinned.checked.prog 4 Try.f4 Rows.fnExactChanceComesSpec Rows.fnExactChanceComesRow = true :=
  (and2 (and2 (and2 (and2 (and2 (and2 (and2 (and2 (and2 (and2 (and2 (and2 (and2 (and2 (and2 (and2 (and2 (and2 (and2 (and2 (and2 (and2 (and2 (and2 (and2 (and2 (and2 (and2 (and2 (and2 (and2 (by kernel_rfl) (by kernel_rfl)) (by kernel_rfl)) (by kernel_rfl)) (by kernel_rfl)) (by kernel_rfl)) (by kernel_rfl)) (by kernel_rfl)) (by kernel_rfl)) (by kernel_rfl)) (by kernel_rfl)) (by kernel_rfl)) (by kernel_rfl)) (by kernel_rfl)) (by kernel_rfl)) (by kernel_rfl)) (by kernel_rfl)) (by kernel_rfl)) (by kernel_rfl)) (by kernel_rfl)) (by kernel_rfl)) (by kernel_rfl)) (by kernel_rfl)) (by kernel_rfl)) (by kernel_rfl)) factEnter) factLifts) factMake) (by kernel_rfl)) (by kernel_rfl)) (by kernel_rfl)) (by kernel_rfl))

theorem over : Rows.fnExactChanceComesRow.holds Try.pinned (OpenSpec.ofChange Rows.fnExactChanceComesSpec) :=
  OpenClaim.holds_of_wide 4 Try.f4 rfl rfl rfl rfl rfl rfl rfl ⟨rfl, rfl, rfl, rfl, rfl⟩ rfl rfl rfl rfl rfl (by kernel_rfl) Try.func4 closed
    (of_decide_eq_true (by kernel_rfl)) (by unfold Func.isWrapper; first | (rw [if_pos (by decide +kernel)]; kernel_rfl) | (rw [if_neg (by decide +kernel)]; exact ⟨rfl, rfl⟩))
    (fun os started H enc _ => lifted os started H enc)

/-- The statement. -/
theorem proved : Rows.FnExactChanceComesSaid := over
end Go.Proofs.Ytomhjfjfmjacfaa.fnExactChanceComes
