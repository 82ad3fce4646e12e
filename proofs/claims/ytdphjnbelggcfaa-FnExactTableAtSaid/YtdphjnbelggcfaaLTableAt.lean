/-
  FnExactTableAt at the commit in COMMIT: for all arguments the law returns true and its arguments read as before: TableAt of the program answers as the model's TableAt. No condition beyond the row's own cells.
-/
import Derived.Test.YtdphjnbelggcfaaRows
import Derived.WalkKit
import Derived.ProofKit
import Derived.OpenShut
import Derived.ShutString
import Derived.ChangeOld
import Derived.Below
import Derived.Test.YtdphjnbelggcfaaFacts
import Derived.Test.YtdphjnbelggcfaaMarkT
import Derived.Test.YtdphjnbelggcfaaTaB
namespace Go.Proofs.Ytdphjnbelggcfaa.fnExactTableAt
open Go.ChangeShapes Go.WideShapes Go.ChangeAt Go.RowKit
open Go.ChangeMaps (open_string shut_string)
set_option linter.unusedVariables false

theorem own : ownKnob Try.prog.godebug = none := by kernel_rfl
theorem laidOut : laidOutB Try.prog = true := by kernel_rfl

set_option maxHeartbeats 8000000 in
theorem walk (a0 : Int) (a1 : Int) (a2 : Int) (w : World) (w0 : (Lit.int .i64 a0).wf = true) (w1 : (Lit.int .i64 a1).wf = true) (w2 : (Lit.int .i64 a2).wf = true) :
    Calls Try.prog 15 #[.int .i64 a0, .int .i64 a1, .int .i64 a2] w fun e w' => e = .returned (.bool true) ∧ Below w.heap.size w w' := by
  obtain ⟨ys, R1, hly, HSp, HIm⟩ := tableAt_both a0 a1 a2 w0 w1 w2
  go_enter Try.func15, Try.ntmps15
  -- the model's answer
  go_wp2_with fail
  refine (HSp.out _).mono ?_
  rintro e w3 ⟨s1, q1, c1, rfl, hs1, hq1, _, hb⟩
  have HC3 : Hid (Below w.heap.size w (w3.alloc (.cells #[.slice s1 ys.length c1] 35))) := Lib.hid (hb.alloc hb.size _)
  have HB3 := Lib.hid ((Bx.nil w3).new (.slice s1 ys.length c1) 35)
  have HS3 := Lib.hid (And.intro (hs1.alloc (.cells #[.slice s1 ys.length c1] 35)) (fun h : 0 < ys.length => src_lt hs1 h))
  have HZ3 : Hid (w.heap.size ≤ w3.heap.size) := Lib.hid hb.size
  have h31 := HB3.out _ (List.mem_cons_self ..)
  clear hb hs1 hq1
  -- the program's answer
  go_wp2_with fail
  refine (HIm.out _).mono ?_
  rintro e w5 ⟨s3, q3, c3, rfl, hs3, hq3, hf3, hb⟩
  have HC5 : Hid (Below w.heap.size w (w5.alloc (.cells #[.slice s3 ys.length c3] 35))) := Lib.hid ((HC3.out.trans (hb.mono HC3.out.size)).alloc (Nat.le_trans HC3.out.size hb.size) _)
  have HB5 := Lib.hid ((HB3.out.step hb).new (.slice s3 ys.length c3) 35)
  have HS5 := Lib.hid ((HS3.out.1.below hb).alloc (.cells #[.slice s3 ys.length c3] 35))
  have HG5 := Lib.hid (hs3.alloc (.cells #[.slice s3 ys.length c3] 35))
  have HP5 : Hid (Open (w5.alloc (.cells #[.slice s3 ys.length c3] 35)) q3 ys.length) := Lib.hid (Open.step (fun j hj => hf3 j hj) (below_alloc w5 _) (fun h => src_lt hs3 h))
  have HN5 : Hid (0 < ys.length → w3.heap.size < q3 ∧ q3 < w5.heap.size) := Lib.hid (fun h => ⟨Nat.lt_of_lt_of_le (by simp) (hq3 h), src_lt hs3 h⟩)
  have HM5 : Hid (w3.heap.size < w5.heap.size) := Lib.hid (Nat.lt_of_lt_of_le (by simp) hb.size)
  have h53 := HB5.out _ (List.mem_cons_self ..)
  have h51 := HB5.out _ (List.mem_cons_of_mem _ (List.mem_cons_self ..))
  clear hb hs3 hq3 hf3 h31
  -- they are one
  go_wp2_with fail
  refine (eqT_yes s3 s1 q3 0 c3 q1 0 c1 ys _ (by omega) HG5.out HS5.out).mono ?_
  rintro e wa ⟨rfl, hb⟩
  have HCa := Lib.hid (HC5.out.trans (hb.mono HC5.out.size))
  have HBa := Lib.hid (HB5.out.step hb)
  have HSa := Lib.hid (HS5.out.below hb)
  have HGa := Lib.hid (HG5.out.below hb)
  have HPa := Lib.hid (HP5.out.step hb (fun h => src_lt HG5.out h))
  have ha3 := HBa.out _ (List.mem_cons_self ..)
  have HLa : Hid (w.heap.size < wa.heap.size) := Lib.hid (by have e1 := HZ3.out; have e2 := HM5.out; have e3 := hb.size; simp at e3; omega)
  obtain ⟨qm, hsm, hom, hmm, hbm, hqm⟩ := mark_block HGa.out HPa.out HBa.out HLa.out (fun h => by
    have e0 := HN5.out h
    have e1 := HZ3.out
    have e2 := HM5.out
    refine ⟨by omega, fun p hp => ?_⟩
    simp only [List.mem_cons, List.not_mem_nil, or_false] at hp
    rcases hp with rfl | rfl
    · show w5.heap.size ≠ q3; omega
    · show w3.heap.size ≠ q3; omega)
  have HQ := Lib.hid (And.intro hsm (And.intro hom (And.intro hmm (And.intro hbm hqm))))
  clear hb h53 h51 hsm hom hmm hbm hqm
  -- the answer is marked
  go_wp2_with fail
  refine (markT_any s3 qm ys.length c3 _ HQ.out.1.1 (by omega) (src_cells HQ.out.1 HQ.out.2.1)).mono ?_
  rintro e wb ⟨rfl, hgr, hd⟩
  have HCb : Hid (Below w.heap.size w wb) := Lib.hid (HCa.out.grown hgr HCa.out.size (fun j e => by injection e with e; have := HQ.out.2.2.1; omega))
  have HBb := Lib.hid (HBa.out.grown hgr HQ.out.2.2.2.1)
  have HSb := Lib.hid (HSa.out.grown hgr (fun h => by have := HQ.out.2.2.2.2 h; have := HN5.out h; have := HS3.out.2 h; omega))
  have HDb := Lib.hid hd
  have hb3 := HBb.out _ (List.mem_cons_self ..)
  clear hgr hd ha3
  -- the marks are held
  go_wp2_with fail
  refine (heldT_any s3 qm ys.length c3 _ HQ.out.1.1 (by omega) HDb.out).mono ?_
  rintro e wc ⟨rfl, hb⟩
  have HCc := Lib.hid (HCb.out.trans (hb.mono HCb.out.size))
  have HBc := Lib.hid (HBb.out.step hb)
  have HSc := Lib.hid (HSb.out.below hb)
  have HDc := Lib.hid (marks_below HDb.out hb)
  clear hb hb3
  -- once more
  go_wp2_with fail
  refine (HIm.out _).mono ?_
  rintro e we ⟨s4, q4, c4, rfl, hs4, _, _, hb⟩
  have HCe : Hid (Below w.heap.size w (we.alloc (.cells #[.slice s4 ys.length c4] 35))) := Lib.hid ((HCc.out.trans (hb.mono HCc.out.size)).alloc (Nat.le_trans HCc.out.size hb.size) _)
  have HBe := Lib.hid ((HBc.out.step hb).new (.slice s4 ys.length c4) 35)
  have HSe := Lib.hid ((HSc.out.below hb).alloc (.cells #[.slice s4 ys.length c4] 35))
  have HDe := Lib.hid (marks_below (marks_below HDc.out hb) (below_alloc we (.cells #[.slice s4 ys.length c4] 35)))
  have HHe := Lib.hid (hs4.alloc (.cells #[.slice s4 ys.length c4] 35))
  have he4 := HBe.out _ (List.mem_cons_self ..)
  have he1 := HBe.out _ (List.mem_cons_of_mem _ (List.mem_cons_of_mem _ (List.mem_cons_self ..)))
  clear hb hs4
  go_wp2_with fail
  refine (eqT_yes s4 s1 q4 0 c4 q1 0 c1 ys _ (by omega) HHe.out HSe.out).mono ?_
  rintro e wf ⟨rfl, hb⟩
  have HCf := Lib.hid (HCe.out.trans (hb.mono HCe.out.size))
  have HBf := Lib.hid (HBe.out.step hb)
  have HDf := Lib.hid (marks_below HDe.out hb)
  have hf3 := HBf.out _ (List.mem_cons_of_mem _ (List.mem_cons_self ..))
  clear hb he4 he1
  go_wp2_with fail
  refine (heldT_any s3 qm ys.length c3 _ HQ.out.1.1 (by omega) HDf.out).mono ?_
  rintro e wg ⟨rfl, hb⟩
  have HCg := Lib.hid (HCf.out.trans (hb.mono HCf.out.size))
  clear hb hf3
  go_wp2
  go_ret
  exact ⟨rfl, HCg.out⟩

set_option maxRecDepth 100000 in
theorem lifted (os : Os) (started : os.Started) (H : Type) (enc : TypeId × Value → H) :
    ReturnsInHanded {} Try.checked os 15 .any (Rows.fnExactTableAtSpec.pre6 enc Try.prog Try.f15 Rows.fnExactTableAtRow.domain false) (Rows.fnExactTableAtSpec.post enc Try.prog Try.f15 false true false false) := by
  refine returnsInHanded_of_change (C := Try.checked) own started (by kernel_rfl) Try.func15
    (ChangeSpec.witness6 (enc := enc) (C := Try.checked) false ⟨#[], #[.int .i64 0, .int .i64 0, .int .i64 0], []⟩ 8 (by kernel_rfl) (by kernel_rfl) (by kernel_rfl) (by kernel_rfl)) ?_
  intro W base args ds gs before hval0 hW hcnd _
  have hval : ∀ (j : Nat) t v, Try.f15.params[j]? = some t → args[j]? = some v → Value.okWide Try.prog W .any base t v := hval0
  have hW' := hW
  obtain ⟨p, q, hA0, hV, rfl, hfz, hnd⟩ := hW
  have hA : DataW.TrodAll enc Try.prog W 0 (fun _ => true) true Try.f15.params.toList args.toList ds p := hA0
  rw [Try.params15] at hA hval
  obtain ⟨v0, vs0, d0, ds0, p0, q0, hargs, rfl, rfl, h0, r0⟩ := trodAll_cons hA
  obtain ⟨v1, vs1, d1, ds1, p1, q1, rfl, rfl, rfl, h1, r1⟩ := trodAll_cons r0
  obtain ⟨v2, vs2, d2, ds2, p2, q2, rfl, rfl, rfl, h2, r2⟩ := trodAll_cons r1
  obtain ⟨rfl, rfl, rfl⟩ := trodAll_nil r2
  obtain rfl : args = #[v0, v1, v2] := by cases args; simp_all
  obtain ⟨rfl, rfl⟩ := trodVars_none hV
  obtain ⟨a0, rfl, rfl, rfl, w0⟩ := open_int Try.underlying3 (hval 0 3 v0 rfl rfl) h0
  obtain ⟨a1, rfl, rfl, rfl, w1⟩ := open_int Try.underlying3 (hval 1 3 v1 rfl rfl) h1
  obtain ⟨a2, rfl, rfl, rfl, w2⟩ := open_int Try.underlying3 (hval 2 3 v2 rfl rfl) h2
  clear hA0 hval0
  refine (walk a0 a1 a2 W w0 w1 w2).mono fun e W' ⟨he, bel⟩ => ?_
  subst he
  exact ⟨_, rfl, _, _, _, [], _, [], hW', trodAll_mk1 (shut_bool Try.underlying4 _), (trodAll_cons_mk (shut_int Try.underlying3 w0) (trodAll_cons_mk (shut_int Try.underlying3 w1) (trodAll_cons_mk (shut_int Try.underlying3 w2) trodAll_mk0))), rfl, bel.frame _, fun h => by cases h⟩

theorem closed : joinedFacts Try.pinned.checked.prog 15 Try.f15 Rows.fnExactTableAtSpec Rows.fnExactTableAtRow = true :=
  (and2 (and2 (and2 (and2 (and2 (and2 (and2 (and2 (and2 (and2 (and2 (and2 (and2 (and2 (and2 (and2 (and2 (and2 (and2 (and2 (and2 (and2 (and2 (and2 (and2 (and2 (and2 (and2 (and2 (and2 (and2 (by kernel_rfl) (by kernel_rfl)) (by kernel_rfl)) (by kernel_rfl)) (by kernel_rfl)) (by kernel_rfl)) (by kernel_rfl)) (by kernel_rfl)) (by kernel_rfl)) (by kernel_rfl)) (by kernel_rfl)) (by kernel_rfl)) (by kernel_rfl)) (by kernel_rfl)) (by kernel_rfl)) (by kernel_rfl)) (by kernel_rfl)) (by kernel_rfl)) (by kernel_rfl)) (by kernel_rfl)) (by kernel_rfl)) (by kernel_rfl)) (by kernel_rfl)) (by kernel_rfl)) (by kernel_rfl)) factEnter) factLifts) factMake) (by kernel_rfl)) (by kernel_rfl)) (by kernel_rfl)) (by kernel_rfl))

theorem over : Rows.fnExactTableAtRow.holds Try.pinned (OpenSpec.ofChange Rows.fnExactTableAtSpec) :=
  OpenClaim.holds_of_wide 15 Try.f15 rfl rfl rfl rfl rfl rfl rfl ⟨rfl, rfl, rfl, rfl, rfl⟩ rfl rfl rfl rfl rfl (by kernel_rfl) Try.func15 closed
    (of_decide_eq_true (by kernel_rfl)) (by unfold Func.isWrapper; first | (rw [if_pos (by decide +kernel)]; kernel_rfl) | (rw [if_neg (by decide +kernel)]; exact ⟨rfl, rfl⟩))
    (fun os started H enc _ => lifted os started H enc)

/-- The statement. -/
theorem proved : Rows.FnExactTableAtSaid := over
end Go.Proofs.Ytdphjnbelggcfaa.fnExactTableAt
