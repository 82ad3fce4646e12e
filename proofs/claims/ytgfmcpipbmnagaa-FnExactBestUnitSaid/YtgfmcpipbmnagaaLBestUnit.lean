/-
  FnExactBestUnit at the commit in COMMIT: for all arguments the law returns true and its arguments read as before: BestUnit of the program answers as the model's BestUnit, and its answer owns its memory. No condition beyond the row's own cells.
-/
import Derived.Test.YtgfmcpipbmnagaaRows
import Derived.WalkKit
import Derived.ProofKit
import Derived.OpenShut
import Derived.ShutString
import Derived.ChangeOld
import Derived.Below
import Derived.Test.YtgfmcpipbmnagaaFacts
import Derived.Test.YtgfmcpipbmnagaaIntW
import Derived.Test.YtgfmcpipbmnagaaDrfB
namespace Go.Proofs.Ytgfmcpipbmnagaa.fnExactBestUnit
open Go.ChangeShapes Go.WideShapes Go.ChangeAt Go.RowKit
open Go.ChangeMaps (open_string shut_string)
set_option linter.unusedVariables false

theorem own : ownKnob Try.prog.godebug = none := by kernel_rfl
theorem laidOut : laidOutB Try.prog = true := by kernel_rfl

set_option maxHeartbeats 16000000 in
set_option maxRecDepth 8000 in
theorem walk (a0 : Option Addr) (len0 cap0 : Nat) (z0 : List Int) (w : World) (w0 : IsInts w a0 len0 cap0 z0) :
    Calls Try.prog 6 #[.slice a0 len0 cap0] w fun e w' => e = .returned (.bool true) ∧ Below w.heap.size w w' := by
  obtain ⟨l0, b0, o0, rfl, hs0, hi0, hm0⟩ := isInts_src w0
  unfold maxLen at hm0
  by_cases hl0 : l0.length ≤ 1048576
  rotate_left
  · have hv : (1048576 : Int) < (l0.length : Int) := by omega
    clear hs0 hi0
    go_enter Try.func6, Try.ntmps6
    go_wp2
    (first | go_ret | go_ret2)
    exact ⟨rfl, Below.refl _ _⟩
  have hv0 : ¬ (1048576 : Int) < (l0.length : Int) := by omega
  obtain ⟨R0, R1, R2, HSp, HIm⟩ := bestUnit_both l0 hl0 hi0
  have HA0 := Lib.hid fun W hb => hs0.below (w' := W) hb
  clear hs0 hi0
  go_enter Try.func6, Try.ntmps6
  go_wp2_with fail
  refine (toI_any a0 b0 o0 cap0 l0 _ (HA0.out _ (Below.refl _ _)) hl0).mono ?_
  rintro e vS0 ⟨rfl, hs, hop, hlt, hb⟩
  have HB1 := Lib.hid hb
  have HS0 := Lib.hid hs
  clear hs hop hlt hb
  go_wp2_with fail
  refine (HSp.out _ _ _ _ HS0.out).mono ?_
  rintro e vS ⟨rfl, hb⟩
  clear HS0
  have HB2 := Lib.hid (HB1.out.trans (hb.mono HB1.out.size))
  clear hb
  go_wp2_with fail
  refine (toI_any a0 b0 o0 cap0 l0 _ (HA0.out _ HB2.out) hl0).mono ?_
  rintro e vX0 ⟨rfl, hs, hop, hlt, hb⟩
  have HB3 := Lib.hid (HB2.out.trans (hb.mono HB2.out.size))
  have HX0 := Lib.hid hs
  clear hs hop hlt hb
  go_wp2_with fail
  refine (HIm.out _ _ _ _ HX0.out).mono ?_
  rintro e vX ⟨rfl, hb⟩
  have HX0 := Lib.hid (HX0.out.below hb)
  have HB4 := Lib.hid (HB3.out.trans (hb.mono HB3.out.size))
  clear hb
  go_wp2_with fail
  refine (toI_any a0 b0 o0 cap0 l0 _ (HA0.out _ HB4.out) hl0).mono ?_
  rintro e vY0 ⟨rfl, hs, hop, hlt, hb⟩
  have HX0 := Lib.hid (HX0.out.below hb)
  have HB5 := Lib.hid (HB4.out.trans (hb.mono HB4.out.size))
  have HY0 := Lib.hid hs
  clear hs hop hlt hb
  go_wp2_with fail
  refine (eqZ_yes _ _ _ _ _ _ l0 _ hl0 HX0.out HY0.out).mono ?_
  rintro e vZ0 ⟨rfl, hb⟩
  clear HY0
  have HX0 := Lib.hid (HX0.out.below hb)
  have HB6 := Lib.hid (HB5.out.trans (hb.mono HB5.out.size))
  clear hb
  go_wp2
  go_ret
  exact ⟨rfl, HB6.out⟩

set_option maxRecDepth 100000 in
theorem lifted (os : Os) (started : os.Started) (H : Type) (enc : TypeId × Value → H) :
    ReturnsInHanded {} Try.checked os 6 .any (Rows.fnExactBestUnitSpec.pre6 enc Try.prog Try.f6 Rows.fnExactBestUnitRow.domain false) (Rows.fnExactBestUnitSpec.post enc Try.prog Try.f6 false true false false) := by
  refine returnsInHanded_of_change (C := Try.checked) own started (by kernel_rfl) Try.func6
    (ChangeSpec.witness6 (enc := enc) (C := Try.checked) false ⟨#[], #[.slice none 0 0], []⟩ 8 (by kernel_rfl) (by kernel_rfl) (by kernel_rfl) (by kernel_rfl)) ?_
  intro W base args ds gs before hval0 hW hcnd _
  have hval : ∀ (j : Nat) t v, Try.f6.params[j]? = some t → args[j]? = some v → Value.okWide Try.prog W .any base t v := hval0
  have hW' := hW
  obtain ⟨p, q, hA0, hV, rfl, hfz, hnd⟩ := hW
  have hA : DataW.TrodAll enc Try.prog W 0 (fun _ => true) true Try.f6.params.toList args.toList ds p := hA0
  rw [Try.params6] at hA hval
  obtain ⟨v0, vs0, d0, ds0, p0, q0, hargs, rfl, rfl, h0, r0⟩ := trodAll_cons hA
  obtain ⟨rfl, rfl, rfl⟩ := trodAll_nil r0
  obtain rfl : args = #[v0] := by cases args; simp_all
  obtain ⟨rfl, rfl⟩ := trodVars_none hV
  obtain ⟨a0, len0, cap0, rfl⟩ := okWide_slice Try.underlying22 (hval 0 22 v0 rfl rfl)
  have k0 := h0
  have lt0 : ∀ x ∈ p0, x.block < W.heap.size := by obtain ⟨m, hm⟩ := k0; exact DataW.trod_lt m _ _ _ hm
  obtain ⟨z0, w0⟩ : ∃ zs, IsInts W a0 len0 cap0 zs := by
    obtain ⟨fuel, hf⟩ := h0
    rcases open_ints Try.underlying22 Try.underlying3 (by kernel_rfl) hf with ⟨hcs, _⟩ | ⟨x, l, c, zs, hcs, _, hl, hm, hz, _, hcell, hwz⟩
    · simp [Value.cells] at hcs
      obtain ⟨rfl, rfl, rfl⟩ := hcs
      exact ⟨[], .inl ⟨rfl, rfl, rfl, rfl⟩⟩
    · simp [Value.cells] at hcs
      obtain ⟨rfl, rfl, rfl⟩ := hcs
      exact ⟨zs, .inr ⟨_, rfl, hl, hm, by simpa using hz, hcell, hwz⟩⟩
  clear hA0 hval0
  refine (walk a0 len0 cap0 z0 W w0).mono fun e W' ⟨he, bel⟩ => ?_
  subst he
  exact ⟨_, rfl, _, _, _, [], _, [], hW', trodAll_mk1 (shut_bool Try.underlying4 _), (trodAll_cons_mk (Below.trod laidOut (by kernel_rfl) (of_decide_eq_true (by kernel_rfl)) k0 bel lt0) trodAll_mk0), rfl, bel.frame _, fun h => by cases h⟩

theorem closed : joinedFacts Try.pinned.checked.prog 6 Try.f6 Rows.fnExactBestUnitSpec Rows.fnExactBestUnitRow = true :=
  (and2 (and2 (and2 (and2 (and2 (and2 (and2 (and2 (and2 (and2 (and2 (and2 (and2 (and2 (and2 (and2 (and2 (and2 (and2 (and2 (and2 (and2 (and2 (and2 (and2 (and2 (and2 (and2 (and2 (and2 (and2 (by kernel_rfl) (by kernel_rfl)) (by kernel_rfl)) (by kernel_rfl)) (by kernel_rfl)) (by kernel_rfl)) (by kernel_rfl)) (by kernel_rfl)) (by kernel_rfl)) (by kernel_rfl)) (by kernel_rfl)) (by kernel_rfl)) (by kernel_rfl)) (by kernel_rfl)) (by kernel_rfl)) (by kernel_rfl)) (by kernel_rfl)) (by kernel_rfl)) (by kernel_rfl)) (by kernel_rfl)) (by kernel_rfl)) (by kernel_rfl)) (by kernel_rfl)) (by kernel_rfl)) (by kernel_rfl)) factEnter) factLifts) factMake) (by kernel_rfl)) (by kernel_rfl)) (by kernel_rfl)) (by kernel_rfl))

theorem over : Rows.fnExactBestUnitRow.holds Try.pinned (OpenSpec.ofChange Rows.fnExactBestUnitSpec) :=
  OpenClaim.holds_of_wide 6 Try.f6 rfl rfl rfl rfl rfl rfl rfl ⟨rfl, rfl, rfl, rfl, rfl⟩ rfl rfl rfl rfl rfl (by kernel_rfl) Try.func6 closed
    (of_decide_eq_true (by kernel_rfl)) (by unfold Func.isWrapper; first | (rw [if_pos (by decide +kernel)]; kernel_rfl) | (rw [if_neg (by decide +kernel)]; exact ⟨rfl, rfl⟩))
    (fun os started H enc _ => lifted os started H enc)

/-- The statement. -/
theorem proved : Rows.FnExactBestUnitSaid := over
end Go.Proofs.Ytgfmcpipbmnagaa.fnExactBestUnit
