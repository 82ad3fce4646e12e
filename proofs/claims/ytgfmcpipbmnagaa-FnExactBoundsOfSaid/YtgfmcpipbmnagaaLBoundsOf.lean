/-
  FnExactBoundsOf at the commit in COMMIT: for all arguments the law returns true and its arguments read as before: BoundsOf of the program answers as the model's BoundsOf, and its answer owns its memory. No condition beyond the row's own cells.
-/
import Derived.Test.YtgfmcpipbmnagaaRows
import Derived.WalkKit
import Derived.ProofKit
import Derived.OpenShut
import Derived.ShutString
import Derived.ChangeOld
import Derived.Below
import Derived.Test.YtgfmcpipbmnagaaFacts
import Derived.Test.YtgfmcpipbmnagaaPairX
import Derived.Test.YtgfmcpipbmnagaaBndW
namespace Go.Proofs.Ytgfmcpipbmnagaa.fnExactBoundsOf
open Go.ChangeShapes Go.WideShapes Go.ChangeAt Go.RowKit
open Go.ChangeMaps (open_string shut_string)
set_option linter.unusedVariables false

theorem own : ownKnob Try.prog.godebug = none := by kernel_rfl
theorem laidOut : laidOutB Try.prog = true := by kernel_rfl

set_option maxHeartbeats 8000000 in
theorem walk (a0 : ByteArray) (a1 : Int) (w : World) (w0 : a0.size ≤ maxLen) (w1 : (Lit.int .i64 a1).wf = true) :
    Calls Try.prog 7 #[.string a0, .int .i64 a1] w fun e w' => e = .returned (.bool true) ∧ Below w.heap.size w w' := by
  by_cases hs0 : a0.size ≤ 1048576
  rotate_left
  · have w02 := w0
    unfold maxLen at w02
    go_enter Try.func7, Try.ntmps7
    go_wp2
    go_ret
    exact ⟨rfl, by first | exact Below.refl _ _ | exact below_alloc _ _⟩
  have hz0 : a0.size ≤ 9223372036854775807 := by omega
  obtain ⟨l, R1, hly, HSp, HIm⟩ := boundsOf_both a0 a1 hs0 w1
  go_enter Try.func7, Try.ntmps7
  -- the model's answer
  go_wp2_with fail
  refine (HSp.out _).mono ?_
  rintro e w1 ⟨a1, q1, c1, rfl, hs1, hq1, _, hb⟩
  have HC1 := Lib.hid hb
  have HS1 := Lib.hid (And.intro hs1 (fun h : 0 < (prs l).length => srcV_lt hs1 h))
  clear hb hs1 hq1
  -- the program's answer
  go_wp2_with fail
  refine (HIm.out _).mono ?_
  rintro e w2 ⟨a3, q3, c3, rfl, hs3, hq3, hf3, hb⟩
  have HC2 := Lib.hid (HC1.out.trans (hb.mono HC1.out.size))
  have HS2 := Lib.hid (HS1.out.1.below hb)
  have HG2 := Lib.hid hs3
  have HP2 : Hid (Open w2 q3 (prs l).length) := Lib.hid (fun j hj => hf3 j hj)
  have HN2 : Hid (0 < (prs l).length → w1.heap.size ≤ q3 ∧ q3 < w2.heap.size ∧ q1 < w1.heap.size) := Lib.hid (fun h => ⟨hq3 h, srcV_lt hs3 h, HS1.out.2 h⟩)
  clear hb hs3 hq3 hf3
  -- they are one
  go_wp2_with fail
  refine (eqP_yes a3 a1 q3 q1 c3 c1 l _ hly HG2.out HS2.out).mono ?_
  rintro e w3 ⟨rfl, hb⟩
  have HC3 := Lib.hid (HC2.out.trans (hb.mono HC2.out.size))
  have HS3 := Lib.hid (HS2.out.below hb)
  have HG3 := Lib.hid (HG2.out.below hb)
  have HP3 := Lib.hid (HP2.out.step hb (fun h => srcV_lt HG2.out h))
  obtain ⟨qm, hsm, hom, hmm, hqm⟩ := mark_blockR (m := w.heap.size) HG3.out HP3.out HC3.out.size (fun h => Nat.le_trans HC1.out.size (HN2.out h).1)
  have HQ := Lib.hid (And.intro hsm (And.intro hom (And.intro hmm hqm)))
  clear hb hsm hom hmm hqm
  -- the answer is marked
  go_wp2_with fail
  refine (markP_any a3 qm l c3 _ HQ.out.1.1 hly (srcV_cells HQ.out.1 HQ.out.2.1)).mono ?_
  rintro e w4 ⟨rfl, hgr, hd⟩
  have HC4 : Hid (Below w.heap.size w w4) := Lib.hid (HC3.out.grown hgr HC3.out.size (fun k e => by cases e; exact HQ.out.2.2.1))
  have HS4 := Lib.hid (HS3.out.grown hgr (fun h => by have := HQ.out.2.2.2 h; have := HN2.out h; omega))
  have HD4 := Lib.hid hd
  clear hgr hd
  -- the marks are held
  go_wp2_with fail
  refine (heldP_any a3 qm l c3 _ HQ.out.1.1 hly HD4.out).mono ?_
  rintro e w5 ⟨rfl, hb⟩
  have HC5 := Lib.hid (HC4.out.trans (hb.mono HC4.out.size))
  have HS5 := Lib.hid (HS4.out.below hb)
  have HD5 := Lib.hid (marksI_below HD4.out hb)
  clear hb
  -- once more
  go_wp2_with fail
  refine (HIm.out _).mono ?_
  rintro e w6 ⟨a4, q4, c4, rfl, hs4, _, _, hb⟩
  have HC6 := Lib.hid (HC5.out.trans (hb.mono HC5.out.size))
  have HS6 := Lib.hid (HS5.out.below hb)
  have HD6 := Lib.hid (marksI_below HD5.out hb)
  have HH6 := Lib.hid hs4
  clear hb hs4
  go_wp2_with fail
  refine (eqP_yes a4 a1 q4 q1 c4 c1 l _ hly HH6.out HS6.out).mono ?_
  rintro e w7 ⟨rfl, hb⟩
  have HC7 := Lib.hid (HC6.out.trans (hb.mono HC6.out.size))
  have HD7 := Lib.hid (marksI_below HD6.out hb)
  clear hb
  go_wp2_with fail
  refine (heldP_any a3 qm l c3 _ HQ.out.1.1 hly HD7.out).mono ?_
  rintro e w8 ⟨rfl, hb⟩
  have HC8 := Lib.hid (HC7.out.trans (hb.mono HC7.out.size))
  clear hb
  go_wp2
  go_ret
  exact ⟨rfl, HC8.out⟩

set_option maxRecDepth 100000 in
theorem lifted (os : Os) (started : os.Started) (H : Type) (enc : TypeId × Value → H) :
    ReturnsInHanded {} Try.checked os 7 .any (Rows.fnExactBoundsOfSpec.pre6 enc Try.prog Try.f7 Rows.fnExactBoundsOfRow.domain false) (Rows.fnExactBoundsOfSpec.post enc Try.prog Try.f7 false true false false) := by
  refine returnsInHanded_of_change (C := Try.checked) own started (by kernel_rfl) Try.func7
    (ChangeSpec.witness6 (enc := enc) (C := Try.checked) false ⟨#[], #[.string ByteArray.empty, .int .i64 0], []⟩ 8 (by kernel_rfl) (by kernel_rfl) (by kernel_rfl) (by kernel_rfl)) ?_
  intro W base args ds gs before hval0 hW hcnd _
  have hval : ∀ (j : Nat) t v, Try.f7.params[j]? = some t → args[j]? = some v → Value.okWide Try.prog W .any base t v := hval0
  have hW' := hW
  obtain ⟨p, q, hA0, hV, rfl, hfz, hnd⟩ := hW
  have hA : DataW.TrodAll enc Try.prog W 0 (fun _ => true) true Try.f7.params.toList args.toList ds p := hA0
  rw [Try.params7] at hA hval
  obtain ⟨v0, vs0, d0, ds0, p0, q0, hargs, rfl, rfl, h0, r0⟩ := trodAll_cons hA
  obtain ⟨v1, vs1, d1, ds1, p1, q1, rfl, rfl, rfl, h1, r1⟩ := trodAll_cons r0
  obtain ⟨rfl, rfl, rfl⟩ := trodAll_nil r1
  obtain rfl : args = #[v0, v1] := by cases args; simp_all
  obtain ⟨rfl, rfl⟩ := trodVars_none hV
  obtain ⟨a0, rfl, rfl, rfl, w0⟩ := open_string Try.underlying9 (hval 0 9 v0 rfl rfl) h0
  obtain ⟨a1, rfl, rfl, rfl, w1⟩ := open_int Try.underlying3 (hval 1 3 v1 rfl rfl) h1
  clear hA0 hval0
  refine (walk a0 a1 W w0 w1).mono fun e W' ⟨he, bel⟩ => ?_
  subst he
  exact ⟨_, rfl, _, _, _, [], _, [], hW', trodAll_mk1 (shut_bool Try.underlying4 _), (trodAll_cons_mk (shut_string Try.underlying9 w0) (trodAll_cons_mk (shut_int Try.underlying3 w1) trodAll_mk0)), rfl, bel.frame _, fun h => by cases h⟩

theorem closed : joinedFacts Try.pinned.checked.prog 7 Try.f7 Rows.fnExactBoundsOfSpec Rows.fnExactBoundsOfRow = true :=
  (and2 (and2 (and2 (and2 (and2 (and2 (and2 (and2 (and2 (and2 (and2 (and2 (and2 (and2 (and2 (and2 (and2 (and2 (and2 (and2 (and2 (and2 (and2 (and2 (and2 (and2 (and2 (and2 (and2 (and2 (and2 (by kernel_rfl) (by kernel_rfl)) (by kernel_rfl)) (by kernel_rfl)) (by kernel_rfl)) (by kernel_rfl)) (by kernel_rfl)) (by kernel_rfl)) (by kernel_rfl)) (by kernel_rfl)) (by kernel_rfl)) (by kernel_rfl)) (by kernel_rfl)) (by kernel_rfl)) (by kernel_rfl)) (by kernel_rfl)) (by kernel_rfl)) (by kernel_rfl)) (by kernel_rfl)) (by kernel_rfl)) (by kernel_rfl)) (by kernel_rfl)) (by kernel_rfl)) (by kernel_rfl)) (by kernel_rfl)) factEnter) factLifts) factMake) (by kernel_rfl)) (by kernel_rfl)) (by kernel_rfl)) (by kernel_rfl))

theorem over : Rows.fnExactBoundsOfRow.holds Try.pinned (OpenSpec.ofChange Rows.fnExactBoundsOfSpec) :=
  OpenClaim.holds_of_wide 7 Try.f7 rfl rfl rfl rfl rfl rfl rfl ⟨rfl, rfl, rfl, rfl, rfl⟩ rfl rfl rfl rfl rfl (by kernel_rfl) Try.func7 closed
    (of_decide_eq_true (by kernel_rfl)) (by unfold Func.isWrapper; first | (rw [if_pos (by decide +kernel)]; kernel_rfl) | (rw [if_neg (by decide +kernel)]; exact ⟨rfl, rfl⟩))
    (fun os started H enc _ => lifted os started H enc)

/-- The statement. -/
theorem proved : Rows.FnExactBoundsOfSaid := over
end Go.Proofs.Ytgfmcpipbmnagaa.fnExactBoundsOf
