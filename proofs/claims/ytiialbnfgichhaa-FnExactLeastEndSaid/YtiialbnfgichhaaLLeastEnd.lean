/-
  FnExactLeastEnd at the commit in COMMIT: for all arguments the law returns true and its arguments read as before: LeastEnd of the program answers as the model's LeastEnd, and its answer owns its memory. No condition beyond the row's own cells.
-/
import Derived.Test.YtiialbnfgichhaaRows
import Derived.WalkKit
import Derived.ProofKit
import Derived.OpenShut
import Derived.ShutString
import Derived.ChangeOld
import Derived.Below
import Derived.Test.YtiialbnfgichhaaFacts
import Derived.Test.YtiialbnfgichhaaLeS
import Derived.Test.YtiialbnfgichhaaSeqX
import Derived.Test.YtiialbnfgichhaaSzW
import Derived.Deep.RegionWith
namespace Go.Proofs.Ytiialbnfgichhaa.fnExactLeastEnd
open Go.ChangeShapes Go.WideShapes Go.ChangeAt Go.RowKit
open Go.ChangeMaps (open_string shut_string)
set_option linter.unusedVariables false

theorem own : ownKnob Try.prog.godebug = none := by kernel_rfl
theorem laidOut : laidOutB Try.prog = true := by kernel_rfl

set_option maxHeartbeats 16000000 in
set_option maxRecDepth 8000 in
theorem walk (a0 : Int) (a1 : Option Addr) (len1 cap1 : Nat) (z1 : List Jb) (w : World) (w0 : (Lit.int .i64 a0).wf = true) (w1 : IsJobs w a1 len1 z1) :
    Calls Try.prog 9 #[.int .i64 a0, .slice a1 len1 cap1] w fun e w' => e = .returned (.bool true) ∧ Below w.heap.size w w' := by
  obtain ⟨hln1, hm1, ⟨b1, o1, hs1⟩, hi1⟩ := w1
  subst hln1
  obtain ⟨l1, rfl⟩ : ∃ l, l = z1 := ⟨_, rfl⟩
  unfold maxLen at hm1
  by_cases hz1 : l1.length ≤ 1048576
  rotate_left
  · have hv : (1048576 : Int) < ((l1.length : Int) : Int) := by omega
    clear hs1 hi1
    go_enter Try.func9, Try.ntmps9
    go_wp2
    (first | go_ret | go_ret2)
    exact ⟨rfl, Below.refl _ _⟩
  have hl1 : l1.length ≤ 1048576 := by omega
  have hv1 : ¬ (1048576 : Int) < ((l1.length : Int) : Int) := by omega
  obtain ⟨R0, R1, HSp, HIm⟩ := leastEnd_both a0 l1 hl1 hi1 w0
  have HA1 := Lib.hid fun W hb => hs1.below (w' := W) hb
  clear hs1 hi1
  go_enter Try.func9, Try.ntmps9
  have hq1 : ¬ (1048576 - (l1.length : Int) < 0) := by omega
  go_wp2_with fail
  refine (szJobS_yes a1 l1.length cap1 (1048576) (by omega) (by omega) _).mono ?_
  rintro e ws1 ⟨rfl, hww⟩
  obtain rfl := hww.symm
  go_wp2_with fail
  refine (toJobS_any a1 b1 o1 cap1 l1 _ (HA1.out _ (Below.refl _ _)) hl1).mono ?_
  rintro e vS1 ⟨rfl, hs, hop, hlt, hb⟩
  have HB1 := Lib.hid hb
  have HS1 := Lib.hid hs
  clear hs hop hlt hb
  go_wp2_with fail
  refine (HSp.out _ _ _ _ HS1.out).mono ?_
  rintro e vS ⟨rfl, hb⟩
  clear HS1
  have HB2 := Lib.hid (HB1.out.trans (hb.mono HB1.out.size))
  clear hb
  go_wp2_with fail
  refine (toJobS_any a1 b1 o1 cap1 l1 _ (HA1.out _ HB2.out) hl1).mono ?_
  rintro e vX1 ⟨rfl, hs, hop, hlt, hb⟩
  have HB3 := Lib.hid (HB2.out.trans (hb.mono HB2.out.size))
  have HX1 := Lib.hid hs
  clear hs hop hlt hb
  go_wp2_with fail
  refine (HIm.out _ _ _ _ HX1.out).mono ?_
  rintro e vX ⟨rfl, hb⟩
  have HX1 := Lib.hid (HX1.out.below hb)
  have HB4 := Lib.hid (HB3.out.trans (hb.mono HB3.out.size))
  clear hb
  go_wp2_with fail
  refine (toJobS_any a1 b1 o1 cap1 l1 _ (HA1.out _ HB4.out) hl1).mono ?_
  rintro e vY1 ⟨rfl, hs, hop, hlt, hb⟩
  have HX1 := Lib.hid (HX1.out.below hb)
  have HB5 := Lib.hid (HB4.out.trans (hb.mono HB4.out.size))
  have HY1 := Lib.hid hs
  clear hs hop hlt hb
  go_wp2_with fail
  refine (eqJobS_yes _ _ _ _ _ _ l1 _ hl1 HX1.out HY1.out).mono ?_
  rintro e vZ1 ⟨rfl, hb⟩
  clear HY1
  have HX1 := Lib.hid (HX1.out.below hb)
  have HB6 := Lib.hid (HB5.out.trans (hb.mono HB5.out.size))
  clear hb
  go_wp2
  go_ret
  exact ⟨rfl, HB6.out⟩

set_option maxRecDepth 100000 in
theorem lifted (os : Os) (started : os.Started) (H : Type) (enc : TypeId × Value → H) :
    ReturnsInHanded {} Try.checked os 9 .any (Rows.fnExactLeastEndSpec.pre6 enc Try.prog Try.f9 Rows.fnExactLeastEndRow.domain false) (Rows.fnExactLeastEndSpec.post enc Try.prog Try.f9 false true false false) := by
  refine returnsInHanded_of_change (C := Try.checked) own started (by kernel_rfl) Try.func9
    (ChangeSpec.witness6 (enc := enc) (C := Try.checked) false ⟨#[], #[.int .i64 0, .slice none 0 0], []⟩ 8 (by kernel_rfl) (by kernel_rfl) (by kernel_rfl) (by kernel_rfl)) ?_
  intro W base args ds gs before hval0 hW hcnd _
  have hval : ∀ (j : Nat) t v, Try.f9.params[j]? = some t → args[j]? = some v → Value.okWide Try.prog W .any base t v := hval0
  have hW' := hW
  obtain ⟨p, q, hA0, hV, rfl, hfz, hnd⟩ := hW
  have hA : DataW.TrodAll enc Try.prog W 0 (fun _ => true) true Try.f9.params.toList args.toList ds p := hA0
  rw [Try.params9] at hA hval
  obtain ⟨v0, vs0, d0, ds0, p0, q0, hargs, rfl, rfl, h0, r0⟩ := trodAll_cons hA
  obtain ⟨v1, vs1, d1, ds1, p1, q1, rfl, rfl, rfl, h1, r1⟩ := trodAll_cons r0
  obtain ⟨rfl, rfl, rfl⟩ := trodAll_nil r1
  obtain rfl : args = #[v0, v1] := by cases args; simp_all
  obtain ⟨rfl, rfl⟩ := trodVars_none hV
  obtain ⟨a0, rfl, rfl, rfl, w0⟩ := open_int Try.underlying3 (hval 0 3 v0 rfl rfl) h0
  obtain ⟨a1, len1, cap1, rfl⟩ := okWide_slice Try.underlying31 (hval 1 31 v1 rfl rfl)
  have k1 := h1
  have lt1 : ∀ x ∈ p1, x.block < W.heap.size := by obtain ⟨m, hm⟩ := k1; exact DataW.trod_lt m _ _ _ hm
  obtain ⟨z1, w1⟩ : ∃ zs, IsJobs W a1 len1 zs := by
    obtain ⟨fuel, hf⟩ := h1
    obtain ⟨x, l, c, zs, hcs, hz⟩ := open_jbs Try.underlying31 Try.underlying23 Try.underlying3 (by kernel_rfl) (by kernel_rfl) rfl rfl rfl rfl rfl rfl rfl rfl hf
    simp [Value.cells] at hcs
    obtain ⟨rfl, rfl, rfl⟩ := hcs
    exact ⟨zs, hz⟩
  clear hA0 hval0
  refine (walk a0 a1 len1 cap1 z1 W w0 w1).mono fun e W' ⟨he, bel⟩ => ?_
  subst he
  exact ⟨_, rfl, _, _, _, [], _, [], hW', trodAll_mk1 (shut_bool Try.underlying4 _), (trodAll_cons_mk (shut_int Try.underlying3 w0) (trodAll_cons_mk (Below.trod laidOut (by kernel_rfl) (of_decide_eq_true (by kernel_rfl)) k1 bel lt1) trodAll_mk0)), rfl, bel.frame _, fun h => by cases h⟩

theorem closed : joinedFacts Try.pinned.checked.prog 9 Try.f9 Rows.fnExactLeastEndSpec Rows.fnExactLeastEndRow = true :=
  (and2 (and2 (and2 (and2 (and2 (and2 (and2 (and2 (and2 (and2 (and2 (and2 (and2 (and2 (and2 (and2 (and2 (and2 (and2 (and2 (and2 (and2 (and2 (and2 (and2 (and2 (and2 (and2 (and2 (and2 (and2 (by kernel_rfl) (by kernel_rfl)) (by kernel_rfl)) (by kernel_rfl)) (by kernel_rfl)) (by kernel_rfl)) (by kernel_rfl)) (by kernel_rfl)) (by kernel_rfl)) (by kernel_rfl)) (by kernel_rfl)) (by kernel_rfl)) (by kernel_rfl)) (by kernel_rfl)) (by kernel_rfl)) (by kernel_rfl)) (by kernel_rfl)) (by kernel_rfl)) (by kernel_rfl)) (by kernel_rfl)) (by kernel_rfl)) (by kernel_rfl)) (by kernel_rfl)) (by kernel_rfl)) (by kernel_rfl)) factEnter) factLifts) factMake) (by kernel_rfl)) (by kernel_rfl)) (by kernel_rfl)) (by kernel_rfl))

theorem over : Rows.fnExactLeastEndRow.holds Try.pinned (OpenSpec.ofChange Rows.fnExactLeastEndSpec) :=
  OpenClaim.holds_of_wide 9 Try.f9 rfl rfl rfl rfl rfl rfl rfl ⟨rfl, rfl, rfl, rfl, rfl⟩ rfl rfl rfl rfl rfl (by kernel_rfl) Try.func9 closed
    (of_decide_eq_true (by kernel_rfl)) (by unfold Func.isWrapper; first | (rw [if_pos (by decide +kernel)]; kernel_rfl) | (rw [if_neg (by decide +kernel)]; exact ⟨rfl, rfl⟩))
    (fun os started H enc _ => lifted os started H enc)

/-- The statement. -/
theorem proved : Rows.FnExactLeastEndSaid := over
end Go.Proofs.Ytiialbnfgichhaa.fnExactLeastEnd
