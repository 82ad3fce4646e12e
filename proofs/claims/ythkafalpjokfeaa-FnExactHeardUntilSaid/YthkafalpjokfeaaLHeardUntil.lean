/-
  FnExactHeardUntil at the commit in COMMIT: for all arguments the law returns true and its arguments read as before: HeardUntil of the program answers as the model's HeardUntil. No condition beyond the row's own cells.
-/
import Derived.Test.YthkafalpjokfeaaRows
import Derived.WalkKit
import Derived.ProofKit
import Derived.OpenShut
import Derived.ShutString
import Derived.ChangeOld
import Derived.Below
import Derived.Test.YthkafalpjokfeaaFacts
import Derived.Test.YthkafalpjokfeaaLawW
import Derived.Test.YthkafalpjokfeaaHdS
import Derived.Deep.RegionWith
namespace Go.Proofs.Ythkafalpjokfeaa.fnExactHeardUntil
open Go.ChangeShapes Go.WideShapes Go.ChangeAt Go.RowKit
open Go.ChangeMaps (open_string shut_string)
set_option linter.unusedVariables false

theorem own : ownKnob Try.prog.godebug = none := by kernel_rfl
theorem laidOut : laidOutB Try.prog = true := by kernel_rfl

set_option maxHeartbeats 4000000 in
theorem walk (a0 : Option Addr) (len0 cap0 : Nat) (z0 : List ByteArray) (a1 : Int) (w : World) (w0 : IsTexts w a0 len0 cap0 z0) (w1 : (Lit.int .i64 a1).wf = true) :
    Calls Try.prog 5 #[.agg #[.slice a0 len0 cap0], .int .i64 a1] w fun e w' => e = .returned (.bool true) ∧ Below w.heap.size w w' := by
  obtain ⟨xs, b, o, rfl, hsrc, hsz, hxl⟩ := isTexts_src w0
  by_cases hbulk : xs.length + bulk xs ≤ 1048576
  rotate_left
  · have F := Lib.hid fun W hb => szT_no a0 b o cap0 xs W (hsrc.below hb) hsz hxl (by omega)
    clear hsrc hsz hxl w0 hbulk
    go_enter Try.func5, Try.ntmps5
    go_wp2_with fail
    refine (F.out _ (below_alloc w _)).mono ?_
    rintro e w1 ⟨rfl, hb⟩
    have HB := Lib.hid ((below_alloc w (.cells #[.slice a0 xs.length cap0] 24)).trans (hb.mono (by simp)))
    clear hb
    go_wp2
    go_ret
    exact ⟨rfl, HB.out⟩
  have HLi : Hid (∀ W, Below w.heap.size w W → ListIn W a0 b o xs) := fun W hb => (⟨hsrc, by omega, fun x hx => by
    obtain ⟨j, hj, hjx⟩ := List.getElem_of_mem hx
    have := size_le_bulk xs j x (by rw [List.getElem?_eq_getElem hj, hjx])
    omega⟩ : ListIn w a0 b o xs).below hb
  have hl := (HLi.out w (Below.refl _ _)).len
  have hli := HLi.out w (Below.refl _ _)
  obtain ⟨R0, R1, HSp, HIm⟩ := heardUntil_both xs a1 hli.len hli.texts w1
  have FZ := Lib.hid fun W hb => szT_yes a0 b o cap0 xs W (HLi.out W hb).src hbulk
  have FT := Lib.hid fun W hb => toT_any a0 b o cap0 xs W (HLi.out W hb).src hl
  have HTx := Lib.hid hli.texts
  clear hsrc hsz hxl w0 hbulk hli
  go_enter Try.func5, Try.ntmps5
  go_wp2_with fail
  refine (FZ.out _ (below_alloc w _)).mono ?_
  rintro e w1 ⟨k, rfl, hb⟩
  have HC : Hid (Carry w a0 xs.length cap0 w1) := Lib.hid ((Carry.new w a0 xs.length cap0 24).step hb)
  have hbox := HC.out.box
  clear hb
  go_wp2_with fail
  refine (FT.out _ HC.out.below).mono ?_
  rintro e w2 ⟨v, rfl, ⟨g, c2, rfl, hc2, hg2, hz2, hh2, hf2⟩, hb⟩
  have HC2 := Lib.hid (HC.out.step hb)
  have LI2 := Lib.hid (listIn_of_holds hh2 hl HTx.out)
  have hbox2 := HC2.out.box
  clear hb hh2 hf2 hz2 hg2 hbox
  go_wp2_with fail
  refine (HSp.out w2 _ _ _ c2 LI2.out).mono ?_
  rintro e w3 ⟨rfl, hb⟩
  have HC3 := Lib.hid (HC2.out.step hb)
  have hbox3 := HC3.out.box
  clear hb hbox2 LI2
  go_wp2_with fail
  refine (FT.out _ HC3.out.below).mono ?_
  rintro e w4 ⟨v, rfl, ⟨g3, c3, rfl, hc3, hg3, hz3, hh3, hf3⟩, hb⟩
  have HC4 := Lib.hid ((HC3.out.step hb).step (below_alloc w4 (.cells #[.slice (some ⟨g3, 0, none⟩) xs.length c3] 29)))
  have HX4 := Lib.hid (And.intro (hh3 : Holds w4 g3 xs) (cell_new w4 (.slice (some ⟨g3, 0, none⟩) xs.length c3) 29))
  have hbox4 := HC4.out.box
  have hx4 := HX4.out.2
  clear hb hh3 hf3 hz3 hg3 hbox3
  go_wp2_with fail
  refine (HIm.out _ _ _ _ c3 (listIn_of_holds (fun j x hx => keep_cell w4 _ (HX4.out.1 j x hx)) hl HTx.out)).mono ?_
  rintro e w5 ⟨rfl, hb⟩
  have HC5 := Lib.hid (HC4.out.step hb)
  have HX5 : Hid (Src w5 (some ⟨g3, 0, none⟩) g3 0 xs) := Lib.hid (((src_of_holds HX4.out.1).alloc _).below hb)
  have hbox5 := HC5.out.box
  have hx5 := (hb.cell (World.block_lt_of_cell? _ _ hx4)).trans hx4
  have F6 := Lib.hid (toT_again HC5.out HLi.out HX5.out hx5)
  have FE := Lib.hid fun (W : World) (g6 c6 : Nat) h1 h2 => eqT_yes (some ⟨g3, 0, none⟩) (some ⟨g6, 0, none⟩) g3 0 c3 g6 0 c6 xs W hl h1 h2
  clear hb hbox4 hx4
  go_wp2_with fail
  go_region_with (first
    | (go_at_call 19; refine F6.out.mono ?_; rintro e w6 ⟨g6, c6, rfl, hx6, HX6⟩)
    | (go_at_call 22; refine (FE.out _ _ _ HX6.out.1 HX6.out.2.1).mono ?_; rintro e w7 ⟨rfl, hb7⟩; have HB7 := Lib.hid (HX6.out.2.2.step hb7).below; clear hb7))
  all_goals (
    go_wp2
    go_ret
    exact ⟨rfl, HB7.out⟩)

set_option maxRecDepth 100000 in
theorem lifted (os : Os) (started : os.Started) (H : Type) (enc : TypeId × Value → H) :
    ReturnsInHanded {} Try.checked os 5 .any (Rows.fnExactHeardUntilSpec.pre6 enc Try.prog Try.f5 Rows.fnExactHeardUntilRow.domain false) (Rows.fnExactHeardUntilSpec.post enc Try.prog Try.f5 false true false false) := by
  refine returnsInHanded_of_change (C := Try.checked) own started (by kernel_rfl) Try.func5
    (ChangeSpec.witness6 (enc := enc) (C := Try.checked) false ⟨#[], #[.agg #[.slice none 0 0], .int .i64 0], []⟩ 8 (by kernel_rfl) (by kernel_rfl) (by kernel_rfl) (by kernel_rfl)) ?_
  intro W base args ds gs before hval0 hW hcnd _
  have hval : ∀ (j : Nat) t v, Try.f5.params[j]? = some t → args[j]? = some v → Value.okWide Try.prog W .any base t v := hval0
  have hW' := hW
  obtain ⟨p, q, hA0, hV, rfl, hfz, hnd⟩ := hW
  have hA : DataW.TrodAll enc Try.prog W 0 (fun _ => true) true Try.f5.params.toList args.toList ds p := hA0
  rw [Try.params5] at hA hval
  obtain ⟨v0, vs0, d0, ds0, p0, q0, hargs, rfl, rfl, h0, r0⟩ := trodAll_cons hA
  obtain ⟨v1, vs1, d1, ds1, p1, q1, rfl, rfl, rfl, h1, r1⟩ := trodAll_cons r0
  obtain ⟨rfl, rfl, rfl⟩ := trodAll_nil r1
  obtain rfl : args = #[v0, v1] := by cases args; simp_all
  obtain ⟨rfl, rfl⟩ := trodVars_none hV
  obtain ⟨cs0, rfl, _⟩ := okWide_struct Try.underlying24 (hval 0 24 v0 rfl rfl)
  have k0 := h0
  have lt0 : ∀ x ∈ p0, x.block < W.heap.size := by obtain ⟨m, hm⟩ := k0; exact DataW.trod_lt m _ _ _ hm
  obtain ⟨a0, len0, cap0, z0, rfl, w0⟩ := open_tab Try.underlying24 rfl rfl (by kernel_rfl) h0
  obtain ⟨a1, rfl, rfl, rfl, w1⟩ := open_int Try.underlying3 (hval 1 3 v1 rfl rfl) h1
  clear hA0 hval0
  refine (walk a0 len0 cap0 z0 a1 W w0 w1).mono fun e W' ⟨he, bel⟩ => ?_
  subst he
  exact ⟨_, rfl, _, _, _, [], _, [], hW', trodAll_mk1 (shut_bool Try.underlying4 _), (trodAll_cons_mk (Below.trod laidOut (by kernel_rfl) (of_decide_eq_true (by kernel_rfl)) k0 bel lt0) (trodAll_cons_mk (shut_int Try.underlying3 w1) trodAll_mk0)), rfl, bel.frame _, fun h => by cases h⟩

theorem closed : joinedFacts Try.pinned.checked.prog 5 Try.f5 Rows.fnExactHeardUntilSpec Rows.fnExactHeardUntilRow = true :=
  (and2 (and2 (and2 (and2 (and2 (and2 (and2 (and2 (and2 (and2 (and2 (and2 (and2 (and2 (and2 (and2 (and2 (and2 (and2 (and2 (and2 (and2 (and2 (and2 (and2 (and2 (and2 (and2 (and2 (and2 (and2 (by kernel_rfl) (by kernel_rfl)) (by kernel_rfl)) (by kernel_rfl)) (by kernel_rfl)) (by kernel_rfl)) (by kernel_rfl)) (by kernel_rfl)) (by kernel_rfl)) (by kernel_rfl)) (by kernel_rfl)) (by kernel_rfl)) (by kernel_rfl)) (by kernel_rfl)) (by kernel_rfl)) (by kernel_rfl)) (by kernel_rfl)) (by kernel_rfl)) (by kernel_rfl)) (by kernel_rfl)) (by kernel_rfl)) (by kernel_rfl)) (by kernel_rfl)) (by kernel_rfl)) (by kernel_rfl)) factEnter) factLifts) factMake) (by kernel_rfl)) (by kernel_rfl)) (by kernel_rfl)) (by kernel_rfl))

theorem over : Rows.fnExactHeardUntilRow.holds Try.pinned (OpenSpec.ofChange Rows.fnExactHeardUntilSpec) :=
  OpenClaim.holds_of_wide 5 Try.f5 rfl rfl rfl rfl rfl rfl rfl ⟨rfl, rfl, rfl, rfl, rfl⟩ rfl rfl rfl rfl rfl (by kernel_rfl) Try.func5 closed
    (of_decide_eq_true (by kernel_rfl)) (by unfold Func.isWrapper; first | (rw [if_pos (by decide +kernel)]; kernel_rfl) | (rw [if_neg (by decide +kernel)]; exact ⟨rfl, rfl⟩))
    (fun os started H enc _ => lifted os started H enc)

/-- The statement. -/
theorem proved : Rows.FnExactHeardUntilSaid := over
end Go.Proofs.Ythkafalpjokfeaa.fnExactHeardUntil
