/-
  FnExactLineOfRuns at the commit in COMMIT: for all arguments the law returns true and its arguments read as before: LineOfRuns of the program answers as the model's LineOfRuns. No condition beyond the row's own cells.
-/
import Derived.Test.YtijhfmjkiijhiaaRows
import Derived.WalkKit
import Derived.ProofKit
import Derived.OpenShut
import Derived.ShutString
import Derived.ChangeOld
import Derived.Below
import Derived.Test.YtijhfmjkiijhiaaFacts
import Derived.Test.YtijhfmjkiijhiaaLorI
import Derived.Test.YtijhfmjkiijhiaaOpenP
namespace Go.Proofs.Ytijhfmjkiijhiaa.fnExactLineOfRuns
open Go.ChangeShapes Go.WideShapes Go.ChangeAt Go.RowKit
open Go.ChangeMaps (open_string shut_string)
set_option linter.unusedVariables false

theorem own : ownKnob Try.prog.godebug = none := by kernel_rfl
theorem laidOut : laidOutB Try.prog = true := by kernel_rfl

set_option maxHeartbeats 4000000 in
theorem walk (a0 : Option Addr) (len0 cap0 : Nat) (z0 : Ps) (w : World) (w0 : IsPairs w a0 len0 z0) :
    Calls Try.prog 4 #[.slice a0 len0 cap0] w fun e w' => e = .returned (.bool true) ∧ Below w.heap.size w w' := by
  obtain ⟨hzl, hlm, ⟨b, o, hs⟩, hin⟩ := w0
  subst hzl
  by_cases hl : z0.length ≤ 1048576
  rotate_left
  · have HZ : Hid (∀ w, Calls Try.prog 7 #[.slice a0 z0.length cap0, .int .i64 1048576] w fun e w' => e = .returned (.int .i64 (-1)) ∧ w' = w) := Lib.hid fun w => by have := szP_any a0 z0.length cap0 w hlm; rwa [if_neg hl] at this
    clear hs hin
    go_enter Try.func4, Try.ntmps4
    go_wp2_with fail
    refine (HZ.out _).mono ?_
    rintro e w1 ⟨rfl, rfl⟩
    go_wp2
    go_ret
    exact ⟨rfl, Below.refl _ _⟩
  have HZ : Hid (∀ w, Calls Try.prog 7 #[.slice a0 z0.length cap0, .int .i64 1048576] w fun e w' => e = .returned (.int .i64 (1048576 - (z0.length : Int))) ∧ w' = w) := Lib.hid fun w => by have := szP_any a0 z0.length cap0 w hlm; rwa [if_pos hl] at this
  have hv : ¬ (1048576 : Int) - (z0.length : Int) < 0 := by omega
  obtain ⟨R0, R1, HSp, HIm⟩ := lineOfRuns_both z0 hl hin
  have HS := Lib.hid fun W hb => hs.below (w' := W) hb
  clear hs hin
  go_enter Try.func4, Try.ntmps4
  go_wp2_with fail
  refine (HZ.out _).mono ?_
  rintro e w1 ⟨rfl, hww⟩
  obtain rfl := hww.symm
  go_wp2_with fail
  refine (toP_any a0 b o cap0 z0 _ (HS.out _ (Below.refl _ _)) hl).mono ?_
  rintro e w2 ⟨rfl, hs2, hb⟩
  have HB2 := Lib.hid hb
  have HS2 := Lib.hid hs2
  clear hb hs2
  go_wp2_with fail
  refine (HSp.out _ _ _ _ _ HS2.out).mono ?_
  rintro e w3 ⟨rfl, hb⟩
  have HB3 := Lib.hid (HB2.out.trans (hb.mono HB2.out.size))
  clear hb
  go_wp2_with fail
  refine (toP_any a0 b o cap0 z0 _ (HS.out _ HB3.out) hl).mono ?_
  rintro e w4 ⟨rfl, hs4, hb⟩
  have HB4 := Lib.hid (HB3.out.trans (hb.mono HB3.out.size))
  have HS4 := Lib.hid fun W hb => hs4.below (w' := W) hb
  clear hb hs4
  go_wp2_with fail
  refine (HIm.out _ _ _ _ _ (HS4.out _ (Below.refl _ _))).mono ?_
  rintro e w5 ⟨rfl, hb⟩
  have HB5 := Lib.hid (HB4.out.trans (hb.mono HB4.out.size))
  have HS5 := Lib.hid fun W hb' => (HS4.out _ hb).below (w' := W) hb'
  clear hb
  go_wp2_with fail
  refine (toP_any a0 b o cap0 z0 _ (HS.out _ HB5.out) hl).mono ?_
  rintro e w6 ⟨rfl, hs6, hb⟩
  have HB6 := Lib.hid (HB5.out.trans (hb.mono HB5.out.size))
  have HS6 := Lib.hid hs6
  have HT6 := Lib.hid (HS5.out _ hb)
  clear hb hs6
  go_wp2_with fail
  refine (eqPI_yes _ _ _ _ _ _ _ _ z0 _ hl HT6.out HS6.out).mono ?_
  rintro e w7 ⟨rfl, hb⟩
  have HB7 := Lib.hid (HB6.out.trans (hb.mono HB6.out.size))
  clear hb
  go_wp2
  go_ret
  exact ⟨rfl, HB7.out⟩

set_option maxRecDepth 100000 in
theorem lifted (os : Os) (started : os.Started) (H : Type) (enc : TypeId × Value → H) :
    ReturnsInHanded {} Try.checked os 4 .any (Rows.fnExactLineOfRunsSpec.pre6 enc Try.prog Try.f4 Rows.fnExactLineOfRunsRow.domain false) (Rows.fnExactLineOfRunsSpec.post enc Try.prog Try.f4 false true false false) := by
  refine returnsInHanded_of_change (C := Try.checked) own started (by kernel_rfl) Try.func4
    (ChangeSpec.witness6 (enc := enc) (C := Try.checked) false ⟨#[], #[.slice none 0 0], []⟩ 8 (by kernel_rfl) (by kernel_rfl) (by kernel_rfl) (by kernel_rfl)) ?_
  intro W base args ds gs before hval0 hW hcnd _
  have hval : ∀ (j : Nat) t v, Try.f4.params[j]? = some t → args[j]? = some v → Value.okWide Try.prog W .any base t v := hval0
  have hW' := hW
  obtain ⟨p, q, hA0, hV, rfl, hfz, hnd⟩ := hW
  have hA : DataW.TrodAll enc Try.prog W 0 (fun _ => true) true Try.f4.params.toList args.toList ds p := hA0
  rw [Try.params4] at hA hval
  obtain ⟨v0, vs0, d0, ds0, p0, q0, hargs, rfl, rfl, h0, r0⟩ := trodAll_cons hA
  obtain ⟨rfl, rfl, rfl⟩ := trodAll_nil r0
  obtain rfl : args = #[v0] := by cases args; simp_all
  obtain ⟨rfl, rfl⟩ := trodVars_none hV
  obtain ⟨a0, len0, cap0, rfl⟩ := okWide_slice Try.underlying25 (hval 0 25 v0 rfl rfl)
  have k0 := h0
  have lt0 : ∀ x ∈ p0, x.block < W.heap.size := by obtain ⟨m, hm⟩ := k0; exact DataW.trod_lt m _ _ _ hm
  obtain ⟨z0, w0⟩ : ∃ zs, IsPairs W a0 len0 zs := by
    obtain ⟨fuel, hf⟩ := h0
    obtain ⟨x, l, c, zs, hcs, hz⟩ := open_prs Try.underlying25 Try.underlying39 Try.underlying3 (by kernel_rfl) (by kernel_rfl) hf
    simp [Value.cells] at hcs
    obtain ⟨rfl, rfl, rfl⟩ := hcs
    exact ⟨zs, hz⟩
  clear hA0 hval0
  refine (walk a0 len0 cap0 z0 W w0).mono fun e W' ⟨he, bel⟩ => ?_
  subst he
  exact ⟨_, rfl, _, _, _, [], _, [], hW', trodAll_mk1 (shut_bool Try.underlying4 _), (trodAll_cons_mk (Below.trod laidOut (by kernel_rfl) (of_decide_eq_true (by kernel_rfl)) k0 bel lt0) trodAll_mk0), rfl, bel.frame _, fun h => by cases h⟩

theorem closed : joinedFacts Try.pinned.checked.prog 4 Try.f4 Rows.fnExactLineOfRunsSpec Rows.fnExactLineOfRunsRow = true :=
  (and2 (and2 (and2 (and2 (and2 (and2 (and2 (and2 (and2 (and2 (and2 (and2 (and2 (and2 (and2 (and2 (and2 (and2 (and2 (and2 (and2 (and2 (and2 (and2 (and2 (and2 (and2 (and2 (and2 (and2 (and2 (by kernel_rfl) (by kernel_rfl)) (by kernel_rfl)) (by kernel_rfl)) (by kernel_rfl)) (by kernel_rfl)) (by kernel_rfl)) (by kernel_rfl)) (by kernel_rfl)) (by kernel_rfl)) (by kernel_rfl)) (by kernel_rfl)) (by kernel_rfl)) (by kernel_rfl)) (by kernel_rfl)) (by kernel_rfl)) (by kernel_rfl)) (by kernel_rfl)) (by kernel_rfl)) (by kernel_rfl)) (by kernel_rfl)) (by kernel_rfl)) (by kernel_rfl)) (by kernel_rfl)) (by kernel_rfl)) factEnter) factLifts) factMake) (by kernel_rfl)) (by kernel_rfl)) (by kernel_rfl)) (by kernel_rfl))

theorem over : Rows.fnExactLineOfRunsRow.holds Try.pinned (OpenSpec.ofChange Rows.fnExactLineOfRunsSpec) :=
  OpenClaim.holds_of_wide 4 Try.f4 rfl rfl rfl rfl rfl rfl rfl ⟨rfl, rfl, rfl, rfl, rfl⟩ rfl rfl rfl rfl rfl (by kernel_rfl) Try.func4 closed
    (of_decide_eq_true (by kernel_rfl)) (by unfold Func.isWrapper; first | (rw [if_pos (by decide +kernel)]; kernel_rfl) | (rw [if_neg (by decide +kernel)]; exact ⟨rfl, rfl⟩))
    (fun os started H enc _ => lifted os started H enc)

/-- The statement. -/
theorem proved : Rows.FnExactLineOfRunsSaid := over
end Go.Proofs.Ytijhfmjkiijhiaa.fnExactLineOfRuns
