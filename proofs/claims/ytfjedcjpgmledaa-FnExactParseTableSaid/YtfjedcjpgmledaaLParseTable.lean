/-
  FnExactParseTable at the commit in COMMIT: for every text the law returns true and its argument reads as before: ParseTable of the program answers as the model's ParseTable, and its answer owns its memory. No condition beyond the row's own cells.
-/
import Derived.Test.YtfjedcjpgmledaaRows
import Derived.WalkKit
import Derived.ProofKit
import Derived.OpenShut
import Derived.ShutString
import Derived.ChangeOld
import Derived.Below
import Derived.Test.YtfjedcjpgmledaaFacts
import Derived.Test.YtfjedcjpgmledaaParseB
namespace Go.Proofs.Ytfjedcjpgmledaa.fnExactParseTable
open Go.ChangeShapes Go.WideShapes Go.ChangeAt Go.RowKit
open Go.ChangeMaps (open_string shut_string)
set_option linter.unusedVariables false

theorem own : ownKnob Try.prog.godebug = none := by kernel_rfl
theorem laidOut : laidOutB Try.prog = true := by kernel_rfl

set_option maxHeartbeats 8000000 in
theorem walk (a0 : ByteArray) (w : World) (w0 : a0.size ≤ maxLen) :
    Calls Try.prog 17 #[.string a0] w fun e w' => e = .returned (.bool true) ∧ Below w.heap.size w w' := by
  by_cases hs0 : a0.size ≤ 1048576
  rotate_left
  · have w02 := w0
    unfold maxLen at w02
    go_enter Try.func17, Try.ntmps17
    go_wp2
    go_ret
    exact ⟨rfl, Below.refl _ _⟩
  obtain ⟨ys, R1, hly, HSp, HIm⟩ := parseTable_both a0 hs0
  go_enter Try.func17, Try.ntmps17
  go_wp2_with fail
  refine (HSp.out _).mono ?_
  rintro e w3 ⟨a1, q1, c1, rfl, hs1, hq1, _, hb⟩
  have HZ3 : Hid (w.heap.size ≤ w3.heap.size) := Lib.hid hb.size
  have HC3 := Lib.hid (hb.trans ((below_alloc w3 (.cells #[.slice a1 ys.length c1] 26)).mono hb.size))
  have HB3 := Lib.hid ((Bx.nil w3).new (.slice a1 ys.length c1) 26)
  have HS3 := Lib.hid (hs1.alloc (.cells #[.slice a1 ys.length c1] 26))
  have HN3 : Hid (0 < ys.length → w.heap.size ≤ q1 ∧ q1 < w3.heap.size) := Lib.hid (fun h => ⟨hq1 h, src_lt hs1 h⟩)
  have h31 := HB3.out _ (List.mem_cons_self ..)
  clear hb hs1 hq1
  go_wp2_with fail
  refine (HIm.out _).mono ?_
  rintro e w5 ⟨a3, q3, c3, rfl, hs3, hq3, hf3, hb⟩
  have HC5 := Lib.hid ((HC3.out.trans (hb.mono HC3.out.size)).trans ((below_alloc w5 (.cells #[.slice a3 ys.length c3] 26)).mono (Nat.le_trans HC3.out.size hb.size)))
  have HB5 := Lib.hid ((HB3.out.step hb).new (.slice a3 ys.length c3) 26)
  have HS5 := Lib.hid ((HS3.out.below hb).alloc (.cells #[.slice a3 ys.length c3] 26))
  have HG5 := Lib.hid (hs3.alloc (.cells #[.slice a3 ys.length c3] 26))
  have HP5 : Hid (Open (w5.alloc (.cells #[.slice a3 ys.length c3] 26)) q3 ys.length) := Lib.hid (Open.step (fun j hj => hf3 j hj) (below_alloc w5 _) (fun h => src_lt hs3 h))
  have HN5 : Hid (0 < ys.length → w3.heap.size < q3 ∧ q3 < w5.heap.size) := Lib.hid (fun h => ⟨Nat.lt_of_lt_of_le (by simp) (hq3 h), src_lt hs3 h⟩)
  have HM5 : Hid (w3.heap.size < w5.heap.size ∧ w.heap.size ≤ w3.heap.size) := Lib.hid ⟨Nat.lt_of_lt_of_le (by simp) hb.size, HZ3.out⟩
  have h53 := HB5.out _ (List.mem_cons_self ..)
  have h51 := HB5.out _ (List.mem_cons_of_mem _ (List.mem_cons_self ..))
  clear hb hs3 hq3 hf3 h31
  go_wp2_with fail
  refine (eqT_yes a3 a1 q3 0 c3 q1 0 c1 ys _ (by omega) HG5.out HS5.out).mono ?_
  rintro e wa ⟨rfl, hb⟩
  have HCa := Lib.hid (HC5.out.trans (hb.mono HC5.out.size))
  have HBa := Lib.hid (HB5.out.step hb)
  have HSa := Lib.hid (HS5.out.below hb)
  have HGa := Lib.hid (HG5.out.below hb)
  have HPa := Lib.hid (HP5.out.step hb (fun h => src_lt HG5.out h))
  have ha3 := HBa.out _ (List.mem_cons_self ..)
  have hlt3 : w3.heap.size < wa.heap.size := HBa.out.lt _ (List.mem_cons_of_mem _ (List.mem_cons_self ..))
  obtain ⟨qm, hsm, hom, hmm, hbm, hqm⟩ := mark_block HGa.out HPa.out HBa.out hlt3 (fun h => by
    have e0 := HN5.out h
    have e2 := HM5.out
    refine ⟨by omega, fun p hp => ?_⟩
    simp only [List.mem_cons, List.not_mem_nil, or_false] at hp
    rcases hp with rfl | rfl
    · show w5.heap.size ≠ q3; omega
    · show w3.heap.size ≠ q3; omega)
  have HQ := Lib.hid (And.intro hsm (And.intro hom (And.intro hmm (And.intro hbm hqm))))
  clear hb h51 h53 hsm hom hmm hbm hqm hlt3
  go_wp2_with fail
  refine (markT_any a3 qm ys.length c3 _ HQ.out.1.1 (by omega) (src_cells HQ.out.1 HQ.out.2.1)).mono ?_
  rintro e wb ⟨rfl, hgr, hd⟩
  have HCb := Lib.hid (grown_below HCa.out hgr (by have := HQ.out.2.2.1; have := HM5.out; omega))
  have HBb := Lib.hid (HBa.out.grown hgr HQ.out.2.2.2.1)
  have HSb := Lib.hid (HSa.out.grown hgr (fun h => by have := HQ.out.2.2.2.2 h; have := HN5.out h; have := HN3.out h; omega))
  have HDb := Lib.hid hd
  have hb3 := HBb.out _ (List.mem_cons_self ..)
  clear hgr hd ha3
  go_wp2_with fail
  refine (heldT_any a3 qm ys.length c3 _ HQ.out.1.1 (by omega) HDb.out).mono ?_
  rintro e wc ⟨rfl, hb⟩
  have HCc := Lib.hid (HCb.out.trans (hb.mono HCb.out.size))
  have HBc := Lib.hid (HBb.out.step hb)
  have HSc := Lib.hid (HSb.out.below hb)
  have HDc := Lib.hid (marks_below HDb.out hb)
  clear hb hb3
  go_wp2_with fail
  refine (HIm.out _).mono ?_
  rintro e we ⟨a4, q4, c4, rfl, hs4, _, _, hb⟩
  have HCe := Lib.hid ((HCc.out.trans (hb.mono HCc.out.size)).trans ((below_alloc we (.cells #[.slice a4 ys.length c4] 26)).mono (Nat.le_trans HCc.out.size hb.size)))
  have HBe := Lib.hid ((HBc.out.step hb).new (.slice a4 ys.length c4) 26)
  have HSe := Lib.hid ((HSc.out.below hb).alloc (.cells #[.slice a4 ys.length c4] 26))
  have HDe := Lib.hid (marks_below (marks_below HDc.out hb) (below_alloc we (.cells #[.slice a4 ys.length c4] 26)))
  have HHe := Lib.hid (hs4.alloc (.cells #[.slice a4 ys.length c4] 26))
  have he4 := HBe.out _ (List.mem_cons_self ..)
  have he1 := HBe.out _ (List.mem_cons_of_mem _ (List.mem_cons_of_mem _ (List.mem_cons_self ..)))
  clear hb hs4
  go_wp2_with fail
  refine (eqT_yes a4 a1 q4 0 c4 q1 0 c1 ys _ (by omega) HHe.out HSe.out).mono ?_
  rintro e wf ⟨rfl, hb⟩
  have HCf := Lib.hid (HCe.out.trans (hb.mono HCe.out.size))
  have HBf := Lib.hid (HBe.out.step hb)
  have HDf := Lib.hid (marks_below HDe.out hb)
  have hf3 := HBf.out _ (List.mem_cons_of_mem _ (List.mem_cons_self ..))
  clear hb he4 he1
  go_wp2_with fail
  refine (heldT_any a3 qm ys.length c3 _ HQ.out.1.1 (by omega) HDf.out).mono ?_
  rintro e wg ⟨rfl, hb⟩
  have HCg := Lib.hid (HCf.out.trans (hb.mono HCf.out.size))
  clear hb hf3
  go_wp2
  go_ret
  exact ⟨rfl, HCg.out⟩

set_option maxRecDepth 100000 in
theorem lifted (os : Os) (started : os.Started) (H : Type) (enc : TypeId × Value → H) :
    ReturnsInHanded {} Try.checked os 17 .any (Rows.fnExactParseTableSpec.pre6 enc Try.prog Try.f17 Rows.fnExactParseTableRow.domain false) (Rows.fnExactParseTableSpec.post enc Try.prog Try.f17 false true false false) := by
  refine returnsInHanded_of_change (C := Try.checked) own started (by kernel_rfl) Try.func17
    (ChangeSpec.witness6 (enc := enc) (C := Try.checked) false ⟨#[], #[.string ByteArray.empty], []⟩ 8 (by kernel_rfl) (by kernel_rfl) (by kernel_rfl) (by kernel_rfl)) ?_
  intro W base args ds gs before hval0 hW hcnd _
  have hval : ∀ (j : Nat) t v, Try.f17.params[j]? = some t → args[j]? = some v → Value.okWide Try.prog W .any base t v := hval0
  have hW' := hW
  obtain ⟨p, q, hA0, hV, rfl, hfz, hnd⟩ := hW
  have hA : DataW.TrodAll enc Try.prog W 0 (fun _ => true) true Try.f17.params.toList args.toList ds p := hA0
  rw [Try.params17] at hA hval
  obtain ⟨v0, vs0, d0, ds0, p0, q0, hargs, rfl, rfl, h0, r0⟩ := trodAll_cons hA
  obtain ⟨rfl, rfl, rfl⟩ := trodAll_nil r0
  obtain rfl : args = #[v0] := by cases args; simp_all
  obtain ⟨rfl, rfl⟩ := trodVars_none hV
  obtain ⟨a0, rfl, rfl, rfl, w0⟩ := open_string Try.underlying9 (hval 0 9 v0 rfl rfl) h0
  clear hA0 hval0
  refine (walk a0 W w0).mono fun e W' ⟨he, bel⟩ => ?_
  subst he
  exact ⟨_, rfl, _, _, _, [], _, [], hW', trodAll_mk1 (shut_bool Try.underlying4 _), (trodAll_cons_mk (shut_string Try.underlying9 w0) trodAll_mk0), rfl, bel.frame _, fun h => by cases h⟩

theorem closed : joinedFacts Try.pinned.checked.prog 17 Try.f17 Rows.fnExactParseTableSpec Rows.fnExactParseTableRow = true :=
  (and2 (and2 (and2 (and2 (and2 (and2 (and2 (and2 (and2 (and2 (and2 (and2 (and2 (and2 (and2 (and2 (and2 (and2 (and2 (and2 (and2 (and2 (and2 (and2 (and2 (and2 (and2 (and2 (and2 (and2 (and2 (by kernel_rfl) (by kernel_rfl)) (by kernel_rfl)) (by kernel_rfl)) (by kernel_rfl)) (by kernel_rfl)) (by kernel_rfl)) (by kernel_rfl)) (by kernel_rfl)) (by kernel_rfl)) (by kernel_rfl)) (by kernel_rfl)) (by kernel_rfl)) (by kernel_rfl)) (by kernel_rfl)) (by kernel_rfl)) (by kernel_rfl)) (by kernel_rfl)) (by kernel_rfl)) (by kernel_rfl)) (by kernel_rfl)) (by kernel_rfl)) (by kernel_rfl)) (by kernel_rfl)) (by kernel_rfl)) factEnter) factLifts) factMake) (by kernel_rfl)) (by kernel_rfl)) (by kernel_rfl)) (by kernel_rfl))

theorem over : Rows.fnExactParseTableRow.holds Try.pinned (OpenSpec.ofChange Rows.fnExactParseTableSpec) :=
  OpenClaim.holds_of_wide 17 Try.f17 rfl rfl rfl rfl rfl rfl rfl ⟨rfl, rfl, rfl, rfl, rfl⟩ rfl rfl rfl rfl rfl (by kernel_rfl) Try.func17 closed
    (of_decide_eq_true (by kernel_rfl)) (by unfold Func.isWrapper; first | (rw [if_pos (by decide +kernel)]; kernel_rfl) | (rw [if_neg (by decide +kernel)]; exact ⟨rfl, rfl⟩))
    (fun os started H enc _ => lifted os started H enc)

/-- The statement. -/
theorem proved : Rows.FnExactParseTableSaid := over
end Go.Proofs.Ytfjedcjpgmledaa.fnExactParseTable
