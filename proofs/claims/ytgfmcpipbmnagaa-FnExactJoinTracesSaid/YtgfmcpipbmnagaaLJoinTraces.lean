/-
  FnExactJoinTraces at the commit in COMMIT: for all arguments the law returns true and its arguments read as before: JoinTraces of the program answers as the model's JoinTraces, and its answer owns its memory. No condition beyond the row's own cells.
-/
import Derived.Test.YtgfmcpipbmnagaaRows
import Derived.WalkKit
import Derived.ProofKit
import Derived.OpenShut
import Derived.ShutString
import Derived.ChangeOld
import Derived.Below
import Derived.Test.YtgfmcpipbmnagaaFacts
import Derived.Test.YtgfmcpipbmnagaaIntW
import Derived.Test.YtgfmcpipbmnagaaJnC
namespace Go.Proofs.Ytgfmcpipbmnagaa.fnExactJoinTraces
open Go.ChangeShapes Go.WideShapes Go.ChangeAt Go.RowKit
open Go.ChangeMaps (open_string shut_string)
set_option linter.unusedVariables false

theorem own : ownKnob Try.prog.godebug = none := by kernel_rfl
theorem laidOut : laidOutB Try.prog = true := by kernel_rfl

set_option maxHeartbeats 16000000 in
set_option maxRecDepth 8000 in
theorem walk (a0 : Option Addr) (len0 cap0 : Nat) (z0 : List Int) (a1 : Int) (a2 : Option Addr) (len2 cap2 : Nat) (z2 : List Int) (w : World) (w0 : IsInts w a0 len0 cap0 z0) (w1 : (Lit.int .i64 a1).wf = true) (w2 : IsInts w a2 len2 cap2 z2) :
    Calls Try.prog 12 #[.slice a0 len0 cap0, .int .i64 a1, .slice a2 len2 cap2] w fun e w' => e = .returned (.bool true) ∧ Below w.heap.size w w' := by
  obtain ⟨l0, b0, o0, rfl, hs0, hi0, hm0⟩ := isInts_src w0
  unfold maxLen at hm0
  obtain ⟨l2, b2, o2, rfl, hs2, hi2, hm2⟩ := isInts_src w2
  unfold maxLen at hm2
  by_cases hl0 : l0.length ≤ 1048576
  rotate_left
  · have hv : (1048576 : Int) < (l0.length : Int) := by omega
    clear hs0 hi0 hs2 hi2
    go_enter Try.func12, Try.ntmps12
    go_wp2
    (first | go_ret | go_ret2)
    exact ⟨rfl, Below.refl _ _⟩
  have hv0 : ¬ (1048576 : Int) < (l0.length : Int) := by omega
  by_cases hl2 : l2.length ≤ 1048576
  rotate_left
  · have hv : (1048576 : Int) < (l2.length : Int) := by omega
    clear hs0 hi0 hs2 hi2
    go_enter Try.func12, Try.ntmps12
    go_wp2
    (first | go_ret | go_ret2)
    exact ⟨rfl, Below.refl _ _⟩
  have hv2 : ¬ (1048576 : Int) < (l2.length : Int) := by omega
  obtain ⟨l, R1, hly, HSp, HIm⟩ := joinTraces_both l0 a1 l2 hl0 hl2 hi0 hi2 w1
  have HA0 := Lib.hid fun W hb => hs0.below (w' := W) hb
  have HA2 := Lib.hid fun W hb => hs2.below (w' := W) hb
  clear hs0 hi0 hs2 hi2
  go_enter Try.func12, Try.ntmps12
  go_wp2_with fail
  refine (toI_any a0 b0 o0 cap0 l0 _ (HA0.out _ (Below.refl _ _)) hl0).mono ?_
  rintro e vS0 ⟨rfl, hs, hop, hlt, hb⟩
  have HB1 := Lib.hid hb
  have HS0 := Lib.hid hs
  clear hs hop hlt hb
  go_wp2_with fail
  refine (toI_any a2 b2 o2 cap2 l2 _ (HA2.out _ HB1.out) hl2).mono ?_
  rintro e vS2 ⟨rfl, hs, hop, hlt, hb⟩
  have HS0 := Lib.hid (HS0.out.below hb)
  have HB2 := Lib.hid (HB1.out.trans (hb.mono HB1.out.size))
  have HS2 := Lib.hid hs
  clear hs hop hlt hb
  go_wp2_with fail
  refine (HSp.out _ _ _ _ HS0.out _ _ _ HS2.out).mono ?_
  rintro e vS ⟨a1, q1, c1, rfl, hs1, hq1, hf1, hb⟩
  clear HS0
  clear HS2
  have HB3 := Lib.hid (HB2.out.trans (hb.mono HB2.out.size))
  have HW : Hid (Own vS a1 q1 (ints l)) := Lib.hid ⟨hs1, fun j hj => hf1 j hj, fun h => srcV_lt hs1 h⟩
  clear hb hs1 hq1 hf1
  go_wp2_with fail
  refine (toI_any a0 b0 o0 cap0 l0 _ (HA0.out _ HB3.out) hl0).mono ?_
  rintro e vX0 ⟨rfl, hs, hop, hlt, hb⟩
  have HSa0 : Hid (0 < (ints l).length → q1 < vS.heap.size) := Lib.hid fun h => HW.out.lt h
  have HLo0 : Hid (w.heap.size ≤ vS.heap.size) := Lib.hid HB3.out.size
  have HLx0 : Hid (vS.heap.size < vX0.heap.size) := Lib.hid hlt
  have HW := Lib.hid (HW.out.below hb)
  have HB4 := Lib.hid (HB3.out.trans (hb.mono HB3.out.size))
  have HX0 : Hid (Own vX0 (some ⟨vS.heap.size, 0, none⟩) vS.heap.size (intz l0)) := Lib.hid ⟨hs, by rw [intz_len]; exact hop, fun _ => hlt⟩
  clear hs hop hlt hb
  go_wp2_with fail
  refine (toI_any a2 b2 o2 cap2 l2 _ (HA2.out _ HB4.out) hl2).mono ?_
  rintro e vX2 ⟨rfl, hs, hop, hlt, hb⟩
  have HSa2 : Hid (0 < (ints l).length → q1 < vX0.heap.size) := Lib.hid fun h => HW.out.lt h
  have HLo2 : Hid (w.heap.size ≤ vX0.heap.size) := Lib.hid HB4.out.size
  have HLx2 : Hid (vX0.heap.size < vX2.heap.size) := Lib.hid hlt
  have HW := Lib.hid (HW.out.below hb)
  have HX0 := Lib.hid (HX0.out.below hb)
  have HB5 := Lib.hid (HB4.out.trans (hb.mono HB4.out.size))
  have HX2 : Hid (Own vX2 (some ⟨vX0.heap.size, 0, none⟩) vX0.heap.size (intz l2)) := Lib.hid ⟨hs, by rw [intz_len]; exact hop, fun _ => hlt⟩
  clear hs hop hlt hb
  go_wp2_with fail
  refine (HIm.out _ _ _ _ HX0.out.src _ _ _ HX2.out.src).mono ?_
  rintro e vG ⟨a3, q3, c3, rfl, hs3, hq3, hf3, hb⟩
  have HW := Lib.hid (HW.out.below hb)
  have HX0 := Lib.hid (HX0.out.below hb)
  have HX2 := Lib.hid (HX2.out.below hb)
  have HSb0 : Hid (0 < (ints l).length → vS.heap.size < q3) := Lib.hid fun h => by have := hq3 h; have := HLx0.out; have := HLx2.out; omega
  have HSb2 : Hid (0 < (ints l).length → vX0.heap.size < q3) := Lib.hid fun h => by have := hq3 h; have := HLx0.out; have := HLx2.out; omega
  have HB6 := Lib.hid (HB5.out.trans (hb.mono HB5.out.size))
  have HG : Hid (Own vG a3 q3 (ints l)) := Lib.hid ⟨hs3, fun j hj => hf3 j hj, fun h => srcV_lt hs3 h⟩
  clear hb hs3 hq3 hf3
  go_wp2_with fail
  refine (eqI_yes a3 a1 q3 q1 c3 c1 l _ hly HG.out.src HW.out.src).mono ?_
  rintro e vE1 ⟨rfl, hb⟩
  have HW := Lib.hid (HW.out.below hb)
  have HX0 := Lib.hid (HX0.out.below hb)
  have HX2 := Lib.hid (HX2.out.below hb)
  have HG := Lib.hid (HG.out.below hb)
  have HB7 := Lib.hid (HB6.out.trans (hb.mono HB6.out.size))
  clear hb
  go_wp2_with fail
  refine (toI_any a0 b0 o0 cap0 l0 _ (HA0.out _ HB7.out) hl0).mono ?_
  rintro e vY0 ⟨rfl, hs, hop, hlt, hb⟩
  have HW := Lib.hid (HW.out.below hb)
  have HX0 := Lib.hid (HX0.out.below hb)
  have HX2 := Lib.hid (HX2.out.below hb)
  have HG := Lib.hid (HG.out.below hb)
  have HB8 := Lib.hid (HB7.out.trans (hb.mono HB7.out.size))
  have HY0 := Lib.hid hs
  clear hs hop hlt hb
  go_wp2_with fail
  refine (eqZ_yes _ _ _ _ _ _ l0 _ hl0 HX0.out.src HY0.out).mono ?_
  rintro e vZ0 ⟨rfl, hb⟩
  have HW := Lib.hid (HW.out.below hb)
  have HX0 := Lib.hid (HX0.out.below hb)
  have HX2 := Lib.hid (HX2.out.below hb)
  have HG := Lib.hid (HG.out.below hb)
  have HB9 := Lib.hid (HB8.out.trans (hb.mono HB8.out.size))
  clear hb HY0
  go_wp2_with fail
  refine (toI_any a2 b2 o2 cap2 l2 _ (HA2.out _ HB9.out) hl2).mono ?_
  rintro e vY2 ⟨rfl, hs, hop, hlt, hb⟩
  have HW := Lib.hid (HW.out.below hb)
  have HX0 := Lib.hid (HX0.out.below hb)
  have HX2 := Lib.hid (HX2.out.below hb)
  have HG := Lib.hid (HG.out.below hb)
  have HB10 := Lib.hid (HB9.out.trans (hb.mono HB9.out.size))
  have HY2 := Lib.hid hs
  clear hs hop hlt hb
  go_wp2_with fail
  refine (eqZ_yes _ _ _ _ _ _ l2 _ hl2 HX2.out.src HY2.out).mono ?_
  rintro e vZ2 ⟨rfl, hb⟩
  have HW := Lib.hid (HW.out.below hb)
  have HX0 := Lib.hid (HX0.out.below hb)
  have HX2 := Lib.hid (HX2.out.below hb)
  have HG := Lib.hid (HG.out.below hb)
  have HB11 := Lib.hid (HB10.out.trans (hb.mono HB10.out.size))
  clear hb HY2
  go_wp2_with fail
  refine (markN_any (some ⟨vS.heap.size, 0, none⟩) vS.heap.size (intz l0) l0.length l0.length (intz_len l0) 1 _ HX0.out hl0 (by omega)).mono ?_
  rintro e vM0 ⟨m0, hm0m, rfl, hgr⟩
  clear HX0
  have HW := Lib.hid (HW.out.grown hgr (fun h => by have := HSa0.out h; omega))
  have HX2 := Lib.hid (HX2.out.grown hgr (fun h => by have := HLx0.out; omega))
  have HG := Lib.hid (HG.out.grown hgr (fun h => by have := HSb0.out h; omega))
  have HB12 : Hid (Below w.heap.size w vM0) := Lib.hid (HB11.out.grown hgr HB11.out.size (fun k e => by cases e; exact HLo0.out))
  have mz0 : ¬ (m0 : Int) < 0 := by omega
  clear hgr
  go_wp2_with fail
  refine (markN_any (some ⟨vX0.heap.size, 0, none⟩) vX0.heap.size (intz l2) l2.length l2.length (intz_len l2) m0 _ HX2.out hl2 (by omega)).mono ?_
  rintro e vM2 ⟨m2, hm2m, rfl, hgr⟩
  clear HX2
  have HW := Lib.hid (HW.out.grown hgr (fun h => by have := HSa2.out h; omega))
  have HG := Lib.hid (HG.out.grown hgr (fun h => by have := HSb2.out h; omega))
  have HB13 : Hid (Below w.heap.size w vM2) := Lib.hid (HB12.out.grown hgr HB12.out.size (fun k e => by cases e; exact HLo2.out))
  have mz2 : ¬ (m2 : Int) < 0 := by omega
  clear hgr
  go_wp2_with fail
  refine (eqI_yes a3 a1 q3 q1 c3 c1 l _ hly HG.out.src HW.out.src).mono ?_
  rintro e vE2 ⟨rfl, hb⟩
  have HW := Lib.hid (HW.out.below hb)
  have HG := Lib.hid (HG.out.below hb)
  have HB14 := Lib.hid (HB13.out.trans (hb.mono HB13.out.size))
  clear hb
  obtain ⟨qm, hsm, hom, hmm, hqm⟩ := mark_blockR (m := w.heap.size) HG.out.src HG.out.opn HB14.out.size (fun h => by have := HSb2.out h; have := HLo2.out; omega)
  have HQ := Lib.hid (And.intro hsm (And.intro hom (And.intro hmm hqm)))
  clear hsm hom hmm hqm
  go_wp2_with fail
  refine (markIl_any a3 qm l c3 _ HQ.out.1.1 hly (srcV_cells HQ.out.1 HQ.out.2.1)).mono ?_
  rintro e vK ⟨rfl, hgr, hd⟩
  have HW := Lib.hid (HW.out.grown hgr (fun h => by have := HQ.out.2.2.2 h; have := HSa0.out h; have := HSb0.out h; omega))
  have HB15 : Hid (Below w.heap.size w vK) := Lib.hid (HB14.out.grown hgr HB14.out.size (fun k e => by cases e; exact HQ.out.2.2.1))
  have HD := Lib.hid hd
  clear hgr hd HG
  go_wp2_with fail
  refine (heldIl_any a3 qm l c3 _ HQ.out.1.1 hly HD.out).mono ?_
  rintro e vH3 ⟨rfl, hb⟩
  have HW := Lib.hid (HW.out.below hb)
  have HD := Lib.hid (marksI_below HD.out hb)
  have HB16 := Lib.hid (HB15.out.trans (hb.mono HB15.out.size))
  clear hb
  go_wp2_with fail
  refine (toI_any a0 b0 o0 cap0 l0 _ (HA0.out _ HB16.out) hl0).mono ?_
  rintro e vT0 ⟨rfl, hs, hop, hlt, hb⟩
  have HW := Lib.hid (HW.out.below hb)
  have HD := Lib.hid (marksI_below HD.out hb)
  have HB17 := Lib.hid (HB16.out.trans (hb.mono HB16.out.size))
  have HT0 := Lib.hid hs
  clear hs hop hlt hb
  go_wp2_with fail
  refine (toI_any a2 b2 o2 cap2 l2 _ (HA2.out _ HB17.out) hl2).mono ?_
  rintro e vT2 ⟨rfl, hs, hop, hlt, hb⟩
  have HT0 := Lib.hid (HT0.out.below hb)
  have HW := Lib.hid (HW.out.below hb)
  have HD := Lib.hid (marksI_below HD.out hb)
  have HB18 := Lib.hid (HB17.out.trans (hb.mono HB17.out.size))
  have HT2 := Lib.hid hs
  clear hs hop hlt hb
  go_wp2_with fail
  refine (HIm.out _ _ _ _ HT0.out _ _ _ HT2.out).mono ?_
  rintro e vJ ⟨a4, q4, c4, rfl, hs4, _, _, hb⟩
  have HW := Lib.hid (HW.out.below hb)
  have HD := Lib.hid (marksI_below HD.out hb)
  have HB19 := Lib.hid (HB18.out.trans (hb.mono HB18.out.size))
  have HH := Lib.hid hs4
  clear hb hs4
  go_wp2_with fail
  refine (eqI_yes a4 a1 q4 q1 c4 c1 l _ hly HH.out HW.out.src).mono ?_
  rintro e vE4 ⟨rfl, hb⟩
  have HD := Lib.hid (marksI_below HD.out hb)
  have HB20 := Lib.hid (HB19.out.trans (hb.mono HB19.out.size))
  clear hb
  go_wp2_with fail
  refine (heldIl_any a3 qm l c3 _ HQ.out.1.1 hly HD.out).mono ?_
  rintro e vL ⟨rfl, hb⟩
  have HB21 := Lib.hid (HB20.out.trans (hb.mono HB20.out.size))
  clear hb
  go_wp2
  go_ret
  exact ⟨rfl, HB21.out⟩

set_option maxRecDepth 100000 in
theorem lifted (os : Os) (started : os.Started) (H : Type) (enc : TypeId × Value → H) :
    ReturnsInHanded {} Try.checked os 12 .any (Rows.fnExactJoinTracesSpec.pre6 enc Try.prog Try.f12 Rows.fnExactJoinTracesRow.domain false) (Rows.fnExactJoinTracesSpec.post enc Try.prog Try.f12 false true false false) := by
  refine returnsInHanded_of_change (C := Try.checked) own started (by kernel_rfl) Try.func12
    (ChangeSpec.witness6 (enc := enc) (C := Try.checked) false ⟨#[], #[.slice none 0 0, .int .i64 0, .slice none 0 0], []⟩ 8 (by kernel_rfl) (by kernel_rfl) (by kernel_rfl) (by kernel_rfl)) ?_
  intro W base args ds gs before hval0 hW hcnd _
  have hval : ∀ (j : Nat) t v, Try.f12.params[j]? = some t → args[j]? = some v → Value.okWide Try.prog W .any base t v := hval0
  have hW' := hW
  obtain ⟨p, q, hA0, hV, rfl, hfz, hnd⟩ := hW
  have hA : DataW.TrodAll enc Try.prog W 0 (fun _ => true) true Try.f12.params.toList args.toList ds p := hA0
  rw [Try.params12] at hA hval
  obtain ⟨v0, vs0, d0, ds0, p0, q0, hargs, rfl, rfl, h0, r0⟩ := trodAll_cons hA
  obtain ⟨v1, vs1, d1, ds1, p1, q1, rfl, rfl, rfl, h1, r1⟩ := trodAll_cons r0
  obtain ⟨v2, vs2, d2, ds2, p2, q2, rfl, rfl, rfl, h2, r2⟩ := trodAll_cons r1
  obtain ⟨rfl, rfl, rfl⟩ := trodAll_nil r2
  obtain rfl : args = #[v0, v1, v2] := by cases args; simp_all
  obtain ⟨rfl, rfl⟩ := trodVars_none hV
  obtain ⟨a0, len0, cap0, rfl⟩ := okWide_slice Try.underlying22 (hval 0 22 v0 rfl rfl)
  have k0 := h0
  have lt0 : ∀ x ∈ p0, x.block < W.heap.size := by obtain ⟨m, hm⟩ := k0; exact DataW.trod_lt m _ _ _ hm
  obtain ⟨z0, w0⟩ : ∃ zs, IsInts W a0 len0 cap0 zs := by
    obtain ⟨fuel, hf⟩ := h0
    rcases open_ints Try.underlying22 Try.underlying3 (by kernel_rfl) hf with ⟨hcs, _⟩ | ⟨x, l, c, zs, hcs, _, hl, hm, hz, _, hcell, hwz⟩
    · simp [Value.cells] at hcs
      obtain ⟨rfl, rfl, rfl⟩ := hcs
      exact ⟨[], .inl ⟨rfl, rfl, rfl, rfl⟩⟩
    · simp [Value.cells] at hcs
      obtain ⟨rfl, rfl, rfl⟩ := hcs
      exact ⟨zs, .inr ⟨_, rfl, hl, hm, by simpa using hz, hcell, hwz⟩⟩
  obtain ⟨a1, rfl, rfl, rfl, w1⟩ := open_int Try.underlying3 (hval 1 3 v1 rfl rfl) h1
  obtain ⟨a2, len2, cap2, rfl⟩ := okWide_slice Try.underlying22 (hval 2 22 v2 rfl rfl)
  have k2 := h2
  have lt2 : ∀ x ∈ p2, x.block < W.heap.size := by obtain ⟨m, hm⟩ := k2; exact DataW.trod_lt m _ _ _ hm
  obtain ⟨z2, w2⟩ : ∃ zs, IsInts W a2 len2 cap2 zs := by
    obtain ⟨fuel, hf⟩ := h2
    rcases open_ints Try.underlying22 Try.underlying3 (by kernel_rfl) hf with ⟨hcs, _⟩ | ⟨x, l, c, zs, hcs, _, hl, hm, hz, _, hcell, hwz⟩
    · simp [Value.cells] at hcs
      obtain ⟨rfl, rfl, rfl⟩ := hcs
      exact ⟨[], .inl ⟨rfl, rfl, rfl, rfl⟩⟩
    · simp [Value.cells] at hcs
      obtain ⟨rfl, rfl, rfl⟩ := hcs
      exact ⟨zs, .inr ⟨_, rfl, hl, hm, by simpa using hz, hcell, hwz⟩⟩
  clear hA0 hval0
  refine (walk a0 len0 cap0 z0 a1 a2 len2 cap2 z2 W w0 w1 w2).mono fun e W' ⟨he, bel⟩ => ?_
  subst he
  exact ⟨_, rfl, _, _, _, [], _, [], hW', trodAll_mk1 (shut_bool Try.underlying4 _), (trodAll_cons_mk (Below.trod laidOut (by kernel_rfl) (of_decide_eq_true (by kernel_rfl)) k0 bel lt0) (trodAll_cons_mk (shut_int Try.underlying3 w1) (trodAll_cons_mk (Below.trod laidOut (by kernel_rfl) (of_decide_eq_true (by kernel_rfl)) k2 bel lt2) trodAll_mk0))), rfl, bel.frame _, fun h => by cases h⟩

theorem closed : joinedFacts Try.pinned.checked.prog 12 Try.f12 Rows.fnExactJoinTracesSpec Rows.fnExactJoinTracesRow = true :=
  (and2 (and2 (and2 (and2 (and2 (and2 (and2 (and2 (and2 (and2 (and2 (and2 (and2 (and2 (and2 (and2 (and2 (and2 (and2 (and2 (and2 (and2 (and2 (and2 (and2 (and2 (and2 (and2 (and2 (and2 (and2 (by kernel_rfl) (by kernel_rfl)) (by kernel_rfl)) (by kernel_rfl)) (by kernel_rfl)) (by kernel_rfl)) (by kernel_rfl)) (by kernel_rfl)) (by kernel_rfl)) (by kernel_rfl)) (by kernel_rfl)) (by kernel_rfl)) (by kernel_rfl)) (by kernel_rfl)) (by kernel_rfl)) (by kernel_rfl)) (by kernel_rfl)) (by kernel_rfl)) (by kernel_rfl)) (by kernel_rfl)) (by kernel_rfl)) (by kernel_rfl)) (by kernel_rfl)) (by kernel_rfl)) (by kernel_rfl)) factEnter) factLifts) factMake) (by kernel_rfl)) (by kernel_rfl)) (by kernel_rfl)) (by kernel_rfl))

theorem over : Rows.fnExactJoinTracesRow.holds Try.pinned (OpenSpec.ofChange Rows.fnExactJoinTracesSpec) :=
  OpenClaim.holds_of_wide 12 Try.f12 rfl rfl rfl rfl rfl rfl rfl ⟨rfl, rfl, rfl, rfl, rfl⟩ rfl rfl rfl rfl rfl (by kernel_rfl) Try.func12 closed
    (of_decide_eq_true (by kernel_rfl)) (by unfold Func.isWrapper; first | (rw [if_pos (by decide +kernel)]; kernel_rfl) | (rw [if_neg (by decide +kernel)]; exact ⟨rfl, rfl⟩))
    (fun os started H enc _ => lifted os started H enc)

/-- The statement. -/
theorem proved : Rows.FnExactJoinTracesSaid := over
end Go.Proofs.Ytgfmcpipbmnagaa.fnExactJoinTraces
