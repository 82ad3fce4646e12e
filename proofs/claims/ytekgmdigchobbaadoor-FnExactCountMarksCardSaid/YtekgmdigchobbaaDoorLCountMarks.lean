/-
  FnExactCountMarks at the commit in COMMIT, the tied card: for all arguments the law returns true and its arguments read as before: CountMarks of the program answers as the model's CountMarks. No condition beyond the row's own cells (the listed library tables are tied to the program's text by the card).
-/
import Derived.Test.YtekgmdigchobbaaDoorCards
import Derived.Test.YtekgmdigchobbaaDoorTie
import Derived.Test.YtekgmdigchobbaaDoorLaid
import Derived.WalkKit
import Derived.ProofKit
import Derived.OpenShut
import Derived.ShutString
import Derived.ChangeOld
import Derived.Below
import Derived.LaidMore
import Derived.Lay
import Derived.Stop.Joined
import Derived.SevenTiedAt
import Derived.Test.YtekgmdigchobbaaDoorFacts
import Derived.Test.YtekgmdigchobbaaDoorLawW
import Derived.Test.YtekgmdigchobbaaDoorTwoW
import Derived.Deep.RegionWith
namespace Go.Proofs.YtekgmdigchobbaaDoor.fnExactCountMarks
open Go.ChangeShapes Go.WideShapes Go.ChangeAt Go.RowKit
open Go.ChangeMaps (open_string shut_string)
set_option linter.unusedVariables false

theorem own : ownKnob Tryd.prog.godebug = none := by kernel_rfl
theorem laidOut : laidOutB Tryd.prog = true := by kernel_rfl

set_option maxHeartbeats 4000000 in
theorem walk (a0 : Option Addr) (len0 cap0 : Nat) (z0 : List ByteArray) (a1 : ByteArray) (w : World) (w0 : IsTexts w a0 len0 cap0 z0) (w1 : a1.size ≤ maxLen) (hM : MaxIs w) :
    Calls Tryd.prog 6 #[.agg #[.slice a0 len0 cap0], .string a1] w fun e w' => e = .returned (.bool true) ∧ Below w.heap.size w w' := by
  obtain ⟨xs, b, o, rfl, hsrc, hsz, hxl⟩ := isTexts_src w0
  have HMx := Lib.hid hM
  clear hM
  by_cases hs1 : a1.size ≤ 1048576
  rotate_left
  · have w12 := w1
    unfold maxLen at w12
    go_enter Tryd.func6, Tryd.ntmps6
    go_wp2
    go_ret
    exact ⟨rfl, by first | exact Below.refl _ _ | exact below_alloc _ _⟩
  have w12 : a1.size ≤ 9223372036854775807 := by omega
  by_cases hbulk : xs.length + bulk xs ≤ 1048576
  rotate_left
  · have F := Lib.hid fun W hb => szT_no a0 b o cap0 xs W (hsrc.below hb) hsz hxl (by omega)
    clear hsrc hsz hxl w0 hbulk
    go_enter Tryd.func6, Tryd.ntmps6
    go_wp2_with fail
    refine (F.out _ (below_alloc w _)).mono ?_
    rintro e w1 ⟨rfl, hb⟩
    have HB := Lib.hid ((below_alloc w (.cells #[.slice a0 xs.length cap0] 41)).trans (hb.mono (by simp)))
    clear hb
    go_wp2
    go_ret
    exact ⟨rfl, HB.out⟩
  have HLi : Hid (∀ W, Below w.heap.size w W → ListIn W a0 b o xs) := fun W hb => (⟨hsrc, by omega, fun x hx => by
    obtain ⟨j, hj, hjx⟩ := List.getElem_of_mem hx
    have := size_le_bulk xs j x (by rw [List.getElem?_eq_getElem hj, hjx])
    omega⟩ : ListIn w a0 b o xs).below hb
  have hl := (HLi.out w (Below.refl _ _)).len
  have hli := HLi.out w (Below.refl _ _)
  obtain ⟨R0, R2, R1, HSp, HIm⟩ := countMarks_both xs a1 hli.len hli.texts hs1
  have FZ := Lib.hid fun W hb => szT_yes a0 b o cap0 xs W (HLi.out W hb).src hbulk
  have FT := Lib.hid fun W hb => toT_any a0 b o cap0 xs W (HLi.out W hb).src hl
  have HTx := Lib.hid hli.texts
  clear hsrc hsz hxl w0 hbulk hli
  go_enter Tryd.func6, Tryd.ntmps6
  go_wp2_with fail
  refine (FZ.out _ (below_alloc w _)).mono ?_
  rintro e w1 ⟨k, rfl, hb⟩
  have HC : Hid (Carry w a0 xs.length cap0 w1) := Lib.hid ((Carry.new w a0 xs.length cap0 41).step hb)
  have hbox := HC.out.box
  clear hb
  go_wp2_with fail
  refine (FT.out _ HC.out.below).mono ?_
  rintro e w2 ⟨v, rfl, ⟨g, c2, rfl, hc2, hg2, hz2, hh2, hf2⟩, hb⟩
  have HC2 := Lib.hid (HC.out.step hb)
  have LI2 := Lib.hid (listIn_of_holds hh2 hl HTx.out)
  have hbox2 := HC2.out.box
  clear hb hh2 hf2 hz2 hg2 hbox
  go_wp2_with fail
  refine (HSp.out w2 _ _ _ c2 LI2.out).mono ?_
  rintro e w3 ⟨rfl, hb⟩
  have HC3 := Lib.hid ((HC2.out.step hb).step (below_alloc w3 (.cells #[.int .i64 R0, .int .i64 R2] 35)))
  have HT3 := Lib.hid (two_new w3 R0 R2)
  have hbox3 := HC3.out.box
  clear hb hbox2 LI2
  go_wp2_with fail
  refine (FT.out _ HC3.out.below).mono ?_
  rintro e w4 ⟨v, rfl, ⟨g3, c3, rfl, hc3, hg3, hz3, hh3, hf3⟩, hb⟩
  have HC4 := Lib.hid ((HC3.out.step hb).step (below_alloc w4 (.cells #[.slice (some ⟨g3, 0, none⟩) xs.length c3] 26)))
  have HX4 := Lib.hid (And.intro (hh3 : Holds w4 g3 xs) (cell_new w4 (.slice (some ⟨g3, 0, none⟩) xs.length c3) 26))
  have hbox4 := HC4.out.box
  have HT4 := Lib.hid ((HT3.out.below hb).below (below_alloc w4 (.cells #[.slice (some ⟨g3, 0, none⟩) xs.length c3] 26)))
  have hx4 := HX4.out.2
  clear hb hh3 hf3 hz3 hg3 hbox3
  go_wp2_with fail
  refine (HIm.out _ _ _ _ c3 (listIn_of_holds (fun j x hx => keep_cell w4 _ (HX4.out.1 j x hx)) hl HTx.out) (HMx.out.below HC4.out.below)).mono ?_
  rintro e w5 ⟨rfl, hb⟩
  have HC5 := Lib.hid ((HC4.out.step hb).step (below_alloc w5 (.cells #[.int .i64 R0, .int .i64 R2] 35)))
  have hT5 := (HT4.out.below hb).below (below_alloc w5 (.cells #[.int .i64 R0, .int .i64 R2] 35))
  have hG5 := two_new w5 R0 R2
  have hX5 := (((src_of_holds HX4.out.1).alloc _).below hb).alloc (.cells #[.int .i64 R0, .int .i64 R2] 35)
  have hx5 := keep_cell w5 (.cells #[.int .i64 R0, .int .i64 R2] 35) ((hb.cell (World.block_lt_of_cell? _ _ hx4)).trans hx4)
  have HX5 := Lib.hid hX5
  have l1 := load_two hT5
  have l2 := load_two hG5
  have l3 := hT5.cell0
  have l4 := hT5.cell1
  have l5 := hG5.cell0
  have l6 := hG5.cell1
  have hbox5 := HC5.out.box
  clear hb hbox4 hx4 hX5
  go_wp2_with fail
  refine (eqA2_yes R0 R2 _).mono ?_
  rintro e w6 ⟨rfl, hb⟩
  clear l1 l2 l3 l4 l5 l6 hbox5
  have hx5 := (hb.cell (World.block_lt_of_cell? _ _ hx5)).trans hx5
  have HX5 := Lib.hid (HX5.out.below hb)
  have HC5 := Lib.hid (HC5.out.step hb)
  have hbox5 := HC5.out.box
  have F6 := Lib.hid (toT_again HC5.out HLi.out HX5.out hx5)
  have FE := Lib.hid fun (W : World) (g6 c6 : Nat) h1 h2 => eqT_yes (some ⟨g3, 0, none⟩) (some ⟨g6, 0, none⟩) g3 0 c3 g6 0 c6 xs W hl h1 h2
  clear hb
  go_wp2_with fail
  go_region_with (first
    | (go_at_call 28; refine F6.out.mono ?_; rintro e w6 ⟨g6, c6, rfl, hx6, HX6⟩)
    | (go_at_call 29; refine (FE.out _ _ _ HX6.out.1 HX6.out.2.1).mono ?_; rintro e w7 ⟨rfl, hb7⟩; have HB7 := Lib.hid (HX6.out.2.2.step hb7).below; clear hb7))
  all_goals (
    go_wp2
    go_ret
    exact ⟨rfl, HB7.out⟩)

set_option maxRecDepth 100000 in
theorem lifted (os : Os) (started : os.Started) (H : Type) (enc : TypeId × Value → H) :
    ReturnsInHanded {} Tryd.checked os 6 .any (fun w args => (Rows.fnExactCountMarksSpec.pre enc Tryd.prog Tryd.f6 [] false w args ∧ laidMetH Tryd.prog Rows.fnExactCountMarksRow.laid w) ∧ sizedMet enc Tryd.prog Tryd.f6 (OpenSpec.ofChange Rows.fnExactCountMarksSpec) false w args)
      (Rows.fnExactCountMarksSpec.post enc Tryd.prog Tryd.f6 false true false false) := by
  refine step_shaped (X := fun w => laidMetH Tryd.prog Rows.fnExactCountMarksRow.laid w) (fun _ _ hh h => h.of_heap hh) own started (by kernel_rfl) Tryd.func6
    (ChangeSpec.witness_shaped (enc := enc) (C := Tryd.checked) (os := os) (X := fun w _ => laidMetH Tryd.prog Rows.fnExactCountMarksRow.laid w) false (World.laidAll Tryd.prog os Rows.fnExactCountMarksRow.laid) #[.agg #[.slice none 0 0], .string ByteArray.empty] 8 (World.laidAll_os _ _ _) (World.shaped_of_ZipB (by kernel_rfl) (by kernel_rfl)) (by kernel_rfl) (by kernel_rfl) (by kernel_rfl)
      (by rw [MakeChecks.laidMetH_plain _ _ _ (by kernel_rfl)]; exact laidMet_laidAll _ (by kernel_rfl) (by kernel_rfl))) ?_
  intro W base args ds gs before hval0 hW hsh
  have hval : ∀ (j : Nat) t v, Tryd.f6.params[j]? = some t → args[j]? = some v → Value.okWide Tryd.prog W .any base t v := hval0
  have hW' := hW
  obtain ⟨p, q, hA0, hV, rfl, hfz, hnd⟩ := hW
  have hA : DataW.TrodAll enc Tryd.prog W 0 (fun _ => true) true Tryd.f6.params.toList args.toList ds p := hA0
  rw [Tryd.params6] at hA hval
  obtain ⟨v0, vs0, d0, ds0, p0, q0, hargs, rfl, rfl, h0, r0⟩ := trodAll_cons hA
  obtain ⟨v1, vs1, d1, ds1, p1, q1, rfl, rfl, rfl, h1, r1⟩ := trodAll_cons r0
  obtain ⟨rfl, rfl, rfl⟩ := trodAll_nil r1
  obtain rfl : args = #[v0, v1] := by cases args; simp_all
  obtain ⟨rfl, rfl⟩ := trodVars_none hV
  obtain ⟨cs0, rfl, _⟩ := okWide_struct Tryd.underlying41 (hval 0 41 v0 rfl rfl)
  have k0 := h0
  have lt0 : ∀ x ∈ p0, x.block < W.heap.size := by obtain ⟨m, hm⟩ := k0; exact DataW.trod_lt m _ _ _ hm
  obtain ⟨a0, len0, cap0, z0, rfl, w0⟩ := open_tab Tryd.underlying41 rfl rfl (by kernel_rfl) h0
  obtain ⟨a1, rfl, rfl, rfl, w1⟩ := open_string Tryd.underlying9 (hval 1 9 v1 rfl rfl) h1
  clear hA0 hval0
  refine (walk a0 len0 cap0 z0 a1 W w0 w1 (max_of hsh)).mono fun e W' ⟨he, bel⟩ => ?_
  subst he
  exact ⟨_, rfl, _, _, _, [], _, [], hW', trodAll_mk1 (shut_bool Tryd.underlying4 _), (trodAll_cons_mk (Below.trod laidOut (by kernel_rfl) (of_decide_eq_true (by kernel_rfl)) k0 bel lt0) (trodAll_cons_mk (shut_string Tryd.underlying9 w1) trodAll_mk0)), rfl, bel.frame _, fun h => by cases h⟩

theorem closed : joinedFacts Tryd.pinned.checked.prog 6 Tryd.f6 Rows.fnExactCountMarksSpec Rows.fnExactCountMarksRow = true :=
  (and2 (and2 (and2 (and2 (and2 (and2 (and2 (and2 (and2 (and2 (and2 (and2 (and2 (and2 (and2 (and2 (and2 (and2 (and2 (and2 (and2 (and2 (and2 (and2 (and2 (and2 (and2 (and2 (and2 (and2 (and2 (by kernel_rfl) (by kernel_rfl)) (by kernel_rfl)) (by kernel_rfl)) (by kernel_rfl)) (by kernel_rfl)) (by kernel_rfl)) (by kernel_rfl)) (by kernel_rfl)) (by kernel_rfl)) (by kernel_rfl)) (by kernel_rfl)) (by kernel_rfl)) (by kernel_rfl)) (by kernel_rfl)) (by kernel_rfl)) (by kernel_rfl)) (by kernel_rfl)) (by kernel_rfl)) (by kernel_rfl)) (by kernel_rfl)) (by kernel_rfl)) (by kernel_rfl)) (by kernel_rfl)) (by kernel_rfl)) factEnter) factLifts) factMake) (by kernel_rfl)) (by kernel_rfl)) (by kernel_rfl)) (by kernel_rfl))

theorem over : Rows.fnExactCountMarksRow.holds Tryd.pinned (OpenSpec.ofChange Rows.fnExactCountMarksSpec) :=
  OpenClaim.holds_of_wide 6 Tryd.f6 rfl rfl rfl rfl rfl rfl rfl ⟨rfl, rfl, rfl, rfl, rfl⟩ rfl rfl rfl rfl rfl (by kernel_rfl) Tryd.func6 closed
    (of_decide_eq_true (by kernel_rfl)) (by unfold Func.isWrapper; first | (rw [if_pos (by decide +kernel)]; kernel_rfl) | (rw [if_neg (by decide +kernel)]; exact ⟨rfl, rfl⟩))
    (fun os started H enc _ => lifted os started H enc)

theorem plain (f : FuncId) (fn : Func) (hf : Tryd.pinned.checked.prog.funcNamed "loop.example/g01248/laws.FnExactCountMarks" = some f) (hfn : Tryd.pinned.checked.prog.funcs[f]? = some fn) :
    false = Tryd.pinned.checked.prog.looks [] ∧ ∀ (j : Nat) t, fn.params[j]? = some t → Tryd.pinned.checked.prog.wantsStandIn t = false := by
  obtain rfl : f = 6 := Option.some.inj ((show Tryd.prog.funcNamed "loop.example/g01248/laws.FnExactCountMarks" = some 6 by kernel_rfl).symm.trans hf) |>.symm
  obtain rfl : fn = Tryd.f6 := (Option.some.inj (Tryd.func6.symm.trans hfn)).symm
  refine ⟨by kernel_rfl, fun j t ht => ?_⟩
  rw [Tryd.params6] at ht
  have hm : t ∈ [41, 9] := by simpa using Array.mem_of_getElem? ht
  have hall : ([41, 9].all fun u => !Tryd.prog.wantsStandIn u) = true := by kernel_rfl
  exact (show Tryd.prog.wantsStandIn t = false by simpa using List.all_eq_true.1 hall t hm)

/-- The tied card. -/
theorem proved : Rows.FnExactCountMarksCardSaid :=
  Claim7.holds_tied_plain_at .later [] _ _ _ _ over (fun _ h => by cases h) (by kernel_rfl) (fun _ h => by cases h) fnExactCountMarks_row_tie rfl ⟨rfl, rfl⟩ (by kernel_rfl) rfl plain (by kernel_rfl)
end Go.Proofs.YtekgmdigchobbaaDoor.fnExactCountMarks
