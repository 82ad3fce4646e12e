/-
  FnExactSignalsOf at the commit in COMMIT, the tied card: for all arguments the law returns true and its arguments read as before: SignalsOf of the program answers as the model's SignalsOf, and its answer owns its memory. No condition beyond the row's own cells (the listed package-level errors are tied to the program's text by the card).
-/
import Derived.Test.YtgfmcpipbmnagaaDoorCards
import Derived.Test.YtgfmcpipbmnagaaDoorTie
import Derived.Test.YtgfmcpipbmnagaaDoorStepL
import Derived.WalkKit
import Derived.ProofKit
import Derived.OpenShut
import Derived.ShutString
import Derived.ChangeOld
import Derived.Below
import Derived.LaidMore
import Derived.Lay
import Derived.Stop.Joined
import Derived.SevenTiedAt
import Derived.Test.YtgfmcpipbmnagaaDoorFacts
import Derived.Test.YtgfmcpipbmnagaaDoorIntW
import Derived.Test.YtgfmcpipbmnagaaDoorSgO
namespace Go.Proofs.YtgfmcpipbmnagaaDoor.fnExactSignalsOf
open Go.ChangeShapes Go.WideShapes Go.ChangeAt Go.RowKit
open Go.ChangeMaps (open_string shut_string)
set_option linter.unusedVariables false

theorem own : ownKnob Tryd.prog.godebug = none := by kernel_rfl
theorem laidOut : laidOutB Tryd.prog = true := by kernel_rfl

set_option maxHeartbeats 16000000 in
set_option maxRecDepth 8000 in
theorem walk (a0 : Option Addr) (len0 cap0 : Nat) (z0 : List Int) (w : World) (w0 : IsInts w a0 len0 cap0 z0) (e0 e1 : Addr) (hS : Sent w e0 e1) :
    Calls Tryd.prog 5 #[.slice a0 len0 cap0] w fun e w' => e = .returned (.bool true) ∧ Below w.heap.size w w' := by
  obtain ⟨l0, b0, o0, rfl, hs0, hi0, hm0⟩ := isInts_src w0
  unfold maxLen at hm0
  by_cases hl0 : l0.length ≤ 1048576
  rotate_left
  · have hv : (1048576 : Int) < (l0.length : Int) := by omega
    clear hs0 hi0
    go_enter Tryd.func5, Tryd.ntmps5
    go_wp2
    (first | go_ret | go_ret2)
    exact ⟨rfl, Below.refl _ _⟩
  have hv0 : ¬ (1048576 : Int) < (l0.length : Int) := by omega
  obtain ⟨l, R1, hly, HSp, HIm⟩ := signalsOf_both l0 hl0 hi0
  have HA0 := Lib.hid fun W hb => hs0.below (w' := W) hb
  clear hs0 hi0
  have HSe := Lib.hid hS
  clear hS
  go_enter Tryd.func5, Tryd.ntmps5
  go_wp2_with fail
  refine (toI_any a0 b0 o0 cap0 l0 _ (HA0.out _ (Below.refl _ _)) hl0).mono ?_
  rintro e vS0 ⟨rfl, hs, hop, hlt, hb⟩
  have HB1 := Lib.hid hb
  have HS0 := Lib.hid hs
  clear hs hop hlt hb
  go_wp2_with fail
  refine (HSp.out _ _ _ _ HS0.out).mono ?_
  rintro e vS ⟨a1, q1, c1, rfl, hs1, hq1, hf1, hb⟩
  clear HS0
  have HB2 := Lib.hid (HB1.out.trans (hb.mono HB1.out.size))
  have HW : Hid (Own vS a1 q1 (sts l)) := Lib.hid ⟨hs1, fun j hj => hf1 j hj, fun h => srcV_lt hs1 h⟩
  clear hb hs1 hq1 hf1
  go_wp2_with fail
  refine (toI_any a0 b0 o0 cap0 l0 _ (HA0.out _ HB2.out) hl0).mono ?_
  rintro e vX0 ⟨rfl, hs, hop, hlt, hb⟩
  have HSa0 : Hid (0 < (sts l).length → q1 < vS.heap.size) := Lib.hid fun h => HW.out.lt h
  have HLo0 : Hid (w.heap.size ≤ vS.heap.size) := Lib.hid HB2.out.size
  have HLx0 : Hid (vS.heap.size < vX0.heap.size) := Lib.hid hlt
  have HW := Lib.hid (HW.out.below hb)
  have HB3 := Lib.hid (HB2.out.trans (hb.mono HB2.out.size))
  have HX0 : Hid (Own vX0 (some ⟨vS.heap.size, 0, none⟩) vS.heap.size (intz l0)) := Lib.hid ⟨hs, by rw [intz_len]; exact hop, fun _ => hlt⟩
  clear hs hop hlt hb
  go_wp2_with fail
  refine (HIm.out _ _ _ _ HX0.out.src _ _ (HSe.out.below HB3.out)).mono ?_
  rintro e vG ⟨a3, q3, c3, rfl, hs3, hq3, hf3, hb⟩
  have HW := Lib.hid (HW.out.below hb)
  have HX0 := Lib.hid (HX0.out.below hb)
  have HSb0 : Hid (0 < (sts l).length → vS.heap.size < q3) := Lib.hid fun h => by have := hq3 h; have := HLx0.out; omega
  have HB4 := Lib.hid (HB3.out.trans (hb.mono HB3.out.size))
  have HG : Hid (Own vG a3 q3 (sts l)) := Lib.hid ⟨hs3, fun j hj => hf3 j hj, fun h => srcV_lt hs3 h⟩
  clear hb hs3 hq3 hf3
  go_wp2_with fail
  refine (eqTx_yes a3 a1 q3 q1 c3 c1 l _ hly HG.out.src HW.out.src).mono ?_
  rintro e vE1 ⟨rfl, hb⟩
  have HW := Lib.hid (HW.out.below hb)
  have HX0 := Lib.hid (HX0.out.below hb)
  have HG := Lib.hid (HG.out.below hb)
  have HB5 := Lib.hid (HB4.out.trans (hb.mono HB4.out.size))
  clear hb
  go_wp2_with fail
  refine (toI_any a0 b0 o0 cap0 l0 _ (HA0.out _ HB5.out) hl0).mono ?_
  rintro e vY0 ⟨rfl, hs, hop, hlt, hb⟩
  have HW := Lib.hid (HW.out.below hb)
  have HX0 := Lib.hid (HX0.out.below hb)
  have HG := Lib.hid (HG.out.below hb)
  have HB6 := Lib.hid (HB5.out.trans (hb.mono HB5.out.size))
  have HY0 := Lib.hid hs
  clear hs hop hlt hb
  go_wp2_with fail
  refine (eqZ_yes _ _ _ _ _ _ l0 _ hl0 HX0.out.src HY0.out).mono ?_
  rintro e vZ0 ⟨rfl, hb⟩
  have HW := Lib.hid (HW.out.below hb)
  have HX0 := Lib.hid (HX0.out.below hb)
  have HG := Lib.hid (HG.out.below hb)
  have HB7 := Lib.hid (HB6.out.trans (hb.mono HB6.out.size))
  clear hb HY0
  go_wp2_with fail
  refine (markN_any (some ⟨vS.heap.size, 0, none⟩) vS.heap.size (intz l0) l0.length l0.length (intz_len l0) 1 _ HX0.out hl0 (by omega)).mono ?_
  rintro e vM0 ⟨m0, hm0m, rfl, hgr⟩
  clear HX0
  have HW := Lib.hid (HW.out.grown hgr (fun h => by have := HSa0.out h; omega))
  have HG := Lib.hid (HG.out.grown hgr (fun h => by have := HSb0.out h; omega))
  have HB8 : Hid (Below w.heap.size w vM0) := Lib.hid (HB7.out.grown hgr HB7.out.size (fun k e => by cases e; exact HLo0.out))
  have mz0 : ¬ (m0 : Int) < 0 := by omega
  clear hgr
  go_wp2_with fail
  refine (eqTx_yes a3 a1 q3 q1 c3 c1 l _ hly HG.out.src HW.out.src).mono ?_
  rintro e vE2 ⟨rfl, hb⟩
  have HW := Lib.hid (HW.out.below hb)
  have HG := Lib.hid (HG.out.below hb)
  have HB9 := Lib.hid (HB8.out.trans (hb.mono HB8.out.size))
  clear hb
  obtain ⟨qm, hsm, hom, hmm, hqm⟩ := mark_blockR (m := w.heap.size) HG.out.src HG.out.opn HB9.out.size (fun h => by have := HSb0.out h; have := HLo0.out; omega)
  have HQ := Lib.hid (And.intro hsm (And.intro hom (And.intro hmm hqm)))
  clear hsm hom hmm hqm
  go_wp2_with fail
  refine (markTx_any a3 qm l c3 _ HQ.out.1.1 hly (srcV_cells HQ.out.1 HQ.out.2.1)).mono ?_
  rintro e vK ⟨rfl, hgr, hd⟩
  have HW := Lib.hid (HW.out.grown hgr (fun h => by have := HQ.out.2.2.2 h; have := HSa0.out h; have := HSb0.out h; omega))
  have HB10 : Hid (Below w.heap.size w vK) := Lib.hid (HB9.out.grown hgr HB9.out.size (fun k e => by cases e; exact HQ.out.2.2.1))
  have HD := Lib.hid hd
  clear hgr hd HG
  go_wp2_with fail
  refine (heldTx_any a3 qm l c3 _ HQ.out.1.1 hly HD.out).mono ?_
  rintro e vH3 ⟨rfl, hb⟩
  have HW := Lib.hid (HW.out.below hb)
  have HD := Lib.hid (marksT_below HD.out hb)
  have HB11 := Lib.hid (HB10.out.trans (hb.mono HB10.out.size))
  clear hb
  go_wp2_with fail
  refine (toI_any a0 b0 o0 cap0 l0 _ (HA0.out _ HB11.out) hl0).mono ?_
  rintro e vT0 ⟨rfl, hs, hop, hlt, hb⟩
  have HW := Lib.hid (HW.out.below hb)
  have HD := Lib.hid (marksT_below HD.out hb)
  have HB12 := Lib.hid (HB11.out.trans (hb.mono HB11.out.size))
  have HT0 := Lib.hid hs
  clear hs hop hlt hb
  go_wp2_with fail
  refine (HIm.out _ _ _ _ HT0.out _ _ (HSe.out.below HB12.out)).mono ?_
  rintro e vJ ⟨a4, q4, c4, rfl, hs4, _, _, hb⟩
  have HW := Lib.hid (HW.out.below hb)
  have HD := Lib.hid (marksT_below HD.out hb)
  have HB13 := Lib.hid (HB12.out.trans (hb.mono HB12.out.size))
  have HH := Lib.hid hs4
  clear hb hs4
  go_wp2_with fail
  refine (eqTx_yes a4 a1 q4 q1 c4 c1 l _ hly HH.out HW.out.src).mono ?_
  rintro e vE4 ⟨rfl, hb⟩
  have HD := Lib.hid (marksT_below HD.out hb)
  have HB14 := Lib.hid (HB13.out.trans (hb.mono HB13.out.size))
  clear hb
  go_wp2_with fail
  refine (heldTx_any a3 qm l c3 _ HQ.out.1.1 hly HD.out).mono ?_
  rintro e vL ⟨rfl, hb⟩
  have HB15 := Lib.hid (HB14.out.trans (hb.mono HB14.out.size))
  clear hb
  go_wp2
  go_ret
  exact ⟨rfl, HB15.out⟩

set_option maxRecDepth 100000 in
theorem lifted (os : Os) (started : os.Started) (H : Type) (enc : TypeId × Value → H) :
    ReturnsInHanded {} Tryd.checked os 5 .any (fun w args => (Rows.fnExactSignalsOfSpec.pre enc Tryd.prog Tryd.f5 [] false w args ∧ laidMetH Tryd.prog Rows.fnExactSignalsOfRow.laid w) ∧ sizedMet enc Tryd.prog Tryd.f5 (OpenSpec.ofChange Rows.fnExactSignalsOfSpec) false w args)
      (Rows.fnExactSignalsOfSpec.post enc Tryd.prog Tryd.f5 false true false false) := by
  refine step_laid (X := fun w => laidMetH Tryd.prog Rows.fnExactSignalsOfRow.laid w) (fun _ _ hh h => h.of_heap hh) own started (by kernel_rfl) Tryd.func5
    (ChangeSpec.witness_shaped (enc := enc) (C := Tryd.checked) (os := os) (X := fun w _ => laidMetH Tryd.prog Rows.fnExactSignalsOfRow.laid w) false (World.laidAll Tryd.prog os Rows.fnExactSignalsOfRow.laid) #[.slice none 0 0] 8 (World.laidAll_os _ _ _) (World.shaped_of_ZipB (by kernel_rfl) (by kernel_rfl)) (by kernel_rfl) (by kernel_rfl) (by kernel_rfl)
      (by rw [MakeChecks.laidMetH_plain _ _ _ (by kernel_rfl)]; exact laidMet_laidAll _ (by kernel_rfl) (by kernel_rfl))) ?_
  intro W base args ds gs before hval0 hW hlaid
  have hval : ∀ (j : Nat) t v, Tryd.f5.params[j]? = some t → args[j]? = some v → Value.okWide Tryd.prog W .any base t v := hval0
  have hW' := hW
  obtain ⟨p, q, hA0, hV, rfl, hfz, hnd⟩ := hW
  have hA : DataW.TrodAll enc Tryd.prog W 0 (fun _ => true) true Tryd.f5.params.toList args.toList ds p := hA0
  rw [Tryd.params5] at hA hval
  obtain ⟨v0, vs0, d0, ds0, p0, q0, hargs, rfl, rfl, h0, r0⟩ := trodAll_cons hA
  obtain ⟨rfl, rfl, rfl⟩ := trodAll_nil r0
  obtain rfl : args = #[v0] := by cases args; simp_all
  have hL : laidMetH Tryd.prog Rows.fnExactSignalsOfRow.laid W := hlaid
  rw [MakeChecks.laidMetH_plain _ _ _ (by kernel_rfl)] at hL
  obtain ⟨e0, e1, hS, hv0, hv1⟩ := sent_of_laid hL
  have hV1 : DataW.TrodVars enc Tryd.prog W (fun _ => true) ["loop.example/g01248/impl.errNoSignal", "loop.example/g01248/impl.errNotValid"] gs q := hV
  obtain ⟨rfl, rfl⟩ := hV1.unique (vars_ba hv0 hv1 trivial trivial _)
  obtain ⟨a0, len0, cap0, rfl⟩ := okWide_slice Tryd.underlying22 (hval 0 22 v0 rfl rfl)
  have k0 := h0
  have lt0 : ∀ x ∈ p0, x.block < W.heap.size := by obtain ⟨m, hm⟩ := k0; exact DataW.trod_lt m _ _ _ hm
  obtain ⟨z0, w0⟩ : ∃ zs, IsInts W a0 len0 cap0 zs := by
    obtain ⟨fuel, hf⟩ := h0
    rcases open_ints Tryd.underlying22 Tryd.underlying3 (by kernel_rfl) hf with ⟨hcs, _⟩ | ⟨x, l, c, zs, hcs, _, hl, hm, hz, _, hcell, hwz⟩
    · simp [Value.cells] at hcs
      obtain ⟨rfl, rfl, rfl⟩ := hcs
      exact ⟨[], .inl ⟨rfl, rfl, rfl, rfl⟩⟩
    · simp [Value.cells] at hcs
      obtain ⟨rfl, rfl, rfl⟩ := hcs
      exact ⟨zs, .inr ⟨_, rfl, hl, hm, by simpa using hz, hcell, hwz⟩⟩
  clear hA0 hval0
  refine (walk a0 len0 cap0 z0 W w0 e0 e1 hS).mono fun e W' ⟨he, bel⟩ => ?_
  subst he
  exact ⟨_, rfl, _, _, _, [], _, [.cell 0 0, .cell 1 0], hW', trodAll_mk1 (shut_bool Tryd.underlying4 _), (trodAll_cons_mk (Below.trod laidOut (by kernel_rfl) (of_decide_eq_true (by kernel_rfl)) k0 bel lt0) trodAll_mk0), vars_ba (var_below hv0 bel) (var_below hv1 bel) trivial trivial _, bel.frame _, fun h => by cases h⟩

theorem closed : joinedFacts Tryd.pinned.checked.prog 5 Tryd.f5 Rows.fnExactSignalsOfSpec Rows.fnExactSignalsOfRow = true :=
  (and2 (and2 (and2 (and2 (and2 (and2 (and2 (and2 (and2 (and2 (and2 (and2 (and2 (and2 (and2 (and2 (and2 (and2 (and2 (and2 (and2 (and2 (and2 (and2 (and2 (and2 (and2 (and2 (and2 (and2 (and2 (by kernel_rfl) (by kernel_rfl)) (by kernel_rfl)) (by kernel_rfl)) (by kernel_rfl)) (by kernel_rfl)) (by kernel_rfl)) (by kernel_rfl)) (by kernel_rfl)) (by kernel_rfl)) (by kernel_rfl)) (by kernel_rfl)) (by kernel_rfl)) (by kernel_rfl)) (by kernel_rfl)) (by kernel_rfl)) (by kernel_rfl)) (by kernel_rfl)) (by kernel_rfl)) (by kernel_rfl)) (by kernel_rfl)) (by kernel_rfl)) (by kernel_rfl)) (by kernel_rfl)) (by kernel_rfl)) factEnter) factLifts) factMake) (by kernel_rfl)) (by kernel_rfl)) (by kernel_rfl)) (by kernel_rfl))

theorem over : Rows.fnExactSignalsOfRow.holds Tryd.pinned (OpenSpec.ofChange Rows.fnExactSignalsOfSpec) :=
  OpenClaim.holds_of_wide 5 Tryd.f5 rfl rfl rfl rfl rfl rfl rfl ⟨rfl, rfl, rfl, rfl, rfl⟩ rfl rfl rfl rfl rfl (by kernel_rfl) Tryd.func5 closed
    (of_decide_eq_true (by kernel_rfl)) (by unfold Func.isWrapper; first | (rw [if_pos (by decide +kernel)]; kernel_rfl) | (rw [if_neg (by decide +kernel)]; exact ⟨rfl, rfl⟩))
    (fun os started H enc _ => lifted os started H enc)

theorem plain (f : FuncId) (fn : Func) (hf : Tryd.pinned.checked.prog.funcNamed "loop.example/g01248/laws.FnExactSignalsOf" = some f) (hfn : Tryd.pinned.checked.prog.funcs[f]? = some fn) :
    true = Tryd.pinned.checked.prog.looks [] ∧ ∀ (j : Nat) t, fn.params[j]? = some t → Tryd.pinned.checked.prog.wantsStandIn t = false := by
  obtain rfl : f = 5 := Option.some.inj ((show Tryd.prog.funcNamed "loop.example/g01248/laws.FnExactSignalsOf" = some 5 by kernel_rfl).symm.trans hf) |>.symm
  obtain rfl : fn = Tryd.f5 := (Option.some.inj (Tryd.func5.symm.trans hfn)).symm
  refine ⟨by kernel_rfl, fun j t ht => ?_⟩
  rw [Tryd.params5] at ht
  have hm : t ∈ [22] := by simpa using Array.mem_of_getElem? ht
  have hall : ([22].all fun u => !Tryd.prog.wantsStandIn u) = true := by kernel_rfl
  exact (show Tryd.prog.wantsStandIn t = false by simpa using List.all_eq_true.1 hall t hm)

/-- The tied card. -/
theorem proved : Rows.FnExactSignalsOfCardSaid :=
  Claim7.holds_tied_plain_at .later [] _ _ _ _ over (fun _ h => by cases h) (by kernel_rfl) (fun _ h => by cases h) fnExactSignalsOf_row_tie rfl ⟨rfl, rfl⟩ (by kernel_rfl) rfl plain (by kernel_rfl)
end Go.Proofs.YtgfmcpipbmnagaaDoor.fnExactSignalsOf
