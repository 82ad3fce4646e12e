/-
  FnExactBestAsk at the commit in COMMIT: for all arguments the law returns true and its arguments read as before: BestAsk of the program answers as the model's BestAsk. No condition beyond the row's own cells.
-/
import Derived.Test.YthkafalpjokfeaaRows
import Derived.WalkKit
import Derived.ProofKit
import Derived.OpenShut
import Derived.ShutString
import Derived.ChangeOld
import Derived.Below
import Derived.Test.YthkafalpjokfeaaFacts
import Derived.Test.YthkafalpjokfeaaMarkT
import Derived.Test.YthkafalpjokfeaaIntW
import Derived.Test.YthkafalpjokfeaaDoS
import Derived.Deep.RegionWith
namespace Go.Proofs.Ythkafalpjokfeaa.fnExactBestAsk
open Go.ChangeShapes Go.WideShapes Go.ChangeAt Go.RowKit
open Go.ChangeMaps (open_string shut_string)
set_option linter.unusedVariables false

theorem own : ownKnob Try.prog.godebug = none := by kernel_rfl
theorem laidOut : laidOutB Try.prog = true := by kernel_rfl

set_option maxHeartbeats 4000000 in
theorem walk (a0 : Option Addr) (len0 cap0 : Nat) (z0 : List ByteArray) (a1 : Option Addr) (len1 cap1 : Nat) (z1 : List Int) (w : World) (w0 : IsTexts w a0 len0 cap0 z0) (w1 : IsInts w a1 len1 cap1 z1) :
    Calls Try.prog 10 #[.agg #[.slice a0 len0 cap0], .slice a1 len1 cap1] w fun e w' => e = .returned (.bool true) ∧ Below w.heap.size w w' := by
  obtain ⟨xs, b, o, rfl, hsrc, hsz, hxl⟩ := isTexts_src w0
  obtain ⟨l, b1, o1, rfl, hsi, _, hl0⟩ := isInts_src w1
  unfold maxLen at hl0
  by_cases hl1 : l.length ≤ 1048576
  rotate_left
  · have h2 : (1048576 : Int) < (l.length : Int) := by omega
    clear hsrc hsz hxl w0 w1 hsi hl1
    go_enter Try.func10, Try.ntmps10
    go_wp2
    go_ret
    exact ⟨rfl, below_alloc _ _⟩
  have h2 : ¬ (1048576 : Int) < (l.length : Int) := by omega
  by_cases hbulk : xs.length + bulk xs ≤ 1048576
  rotate_left
  · have F := Lib.hid fun W hb => szT_no a0 b o cap0 xs W (hsrc.below hb) hsz hxl (by omega)
    clear hsrc hsz hxl w0 w1 hsi hbulk
    go_enter Try.func10, Try.ntmps10
    go_wp2_with fail
    refine (F.out _ (below_alloc w _)).mono ?_
    rintro e w1 ⟨rfl, hb⟩
    have HB := Lib.hid ((below_alloc w (.cells #[.slice a0 xs.length cap0] 24)).trans (hb.mono (by simp)))
    clear hb
    go_wp2
    go_ret
    exact ⟨rfl, HB.out⟩
  have HLi : Hid (∀ W, Below w.heap.size w W → ListIn W a0 b o xs) := fun W hb => (⟨hsrc, by omega, fun x hx => by
    obtain ⟨j, hj, hjx⟩ := List.getElem_of_mem hx
    have := size_le_bulk xs j x (by rw [List.getElem?_eq_getElem hj, hjx])
    omega⟩ : ListIn w a0 b o xs).below hb
  have hl := (HLi.out w (Below.refl _ _)).len
  have hli := HLi.out w (Below.refl _ _)
  obtain ⟨R0, R1, HSp, HIm⟩ := bestAsk_both xs l hli.len hli.texts hl1
  have FZ := Lib.hid fun W hb => szT_yes a0 b o cap0 xs W (HLi.out W hb).src hbulk
  have FT := Lib.hid fun W hb => toT_any a0 b o cap0 xs W (HLi.out W hb).src hl
  have FI := Lib.hid fun W (hb : Below w.heap.size w W) => toI_any a1 b1 o1 cap1 l W (hsi.below hb) hl1
  have HTx := Lib.hid hli.texts
  clear hsrc hsz hxl w0 w1 hbulk hli hsi
  go_enter Try.func10, Try.ntmps10
  go_wp2_with fail
  refine (FZ.out _ (below_alloc w _)).mono ?_
  rintro e w1 ⟨k, rfl, hb⟩
  have HC : Hid (Carry w a0 xs.length cap0 w1) := Lib.hid ((Carry.new w a0 xs.length cap0 24).step hb)
  have hbox := HC.out.box
  clear hb
  go_wp2_with fail
  refine (FT.out _ HC.out.below).mono ?_
  rintro e w2 ⟨v, rfl, ⟨g, c2, rfl, hc2, hg2, hz2, hh2, hf2⟩, hb⟩
  have HC2 := Lib.hid (HC.out.step hb)
  have LI2 := Lib.hid (listIn_of_holds hh2 hl HTx.out)
  have hbox2 := HC2.out.box
  clear hb hh2 hf2 hz2 hg2 hbox
  go_wp2_with fail
  refine (FI.out _ HC2.out.below).mono ?_
  rintro e w3 ⟨rfl, hs3, _, _, hb⟩
  have HC3 := Lib.hid (HC2.out.step hb)
  have LI3 := Lib.hid (LI2.out.below hb)
  have HI3 := Lib.hid hs3
  have hbox3 := HC3.out.box
  clear hb hs3 hbox2 LI2
  go_wp2_with fail
  refine (HSp.out w3 _ _ _ c2 LI3.out _ _ l.length HI3.out).mono ?_
  rintro e w4 ⟨rfl, hb⟩
  have HC4 := Lib.hid (HC3.out.step hb)
  have hbox4 := HC4.out.box
  clear hb hbox3 LI3 HI3
  go_wp2_with fail
  refine (FT.out _ HC4.out.below).mono ?_
  rintro e w5 ⟨v, rfl, ⟨g3, c3, rfl, hc3, hg3, hz3, hh3, hf3⟩, hb⟩
  have HC5 := Lib.hid ((HC4.out.step hb).step (below_alloc w5 (.cells #[.slice (some ⟨g3, 0, none⟩) xs.length c3] 29)))
  have HX5 := Lib.hid ((src_of_holds hh3).alloc (.cells #[.slice (some ⟨g3, 0, none⟩) xs.length c3] 29))
  have hx5 := cell_new w5 (.slice (some ⟨g3, 0, none⟩) xs.length c3) 29
  have hbox5 := HC5.out.box
  clear hb hh3 hf3 hz3 hg3 hbox4
  go_wp2_with fail
  generalize w5.alloc (.cells #[.slice (some ⟨g3, 0, none⟩) xs.length c3] 29) = W5 at *
  refine (FI.out _ HC5.out.below).mono ?_
  rintro e w6 ⟨rfl, hs6, _, _, hb⟩
  have HC6 := Lib.hid (HC5.out.step hb)
  have HX6 := Lib.hid (HX5.out.below hb)
  have hx6 := (hb.cell (World.block_lt_of_cell? _ _ hx5)).trans hx5
  have HI6 := Lib.hid hs6
  have hbox6 := HC6.out.box
  clear hb hs6 hx5 hbox5
  go_wp2_with fail
  refine (HIm.out _ _ _ _ c3 (⟨HX6.out, hl, HTx.out⟩ : ListIn _ _ _ _ _) _ _ l.length HI6.out).mono ?_
  rintro e w7 ⟨rfl, hb⟩
  have HC7 := Lib.hid (HC6.out.step hb)
  have HX7 := Lib.hid (HX6.out.below hb)
  have hx7 := (hb.cell (World.block_lt_of_cell? _ _ hx6)).trans hx6
  have HI7 := Lib.hid (HI6.out.below hb)
  have hbox7 := HC7.out.box
  clear hb hbox6 hx6
  have F8 := Lib.hid (toT_drew HC7.out HLi.out hx7)
  have FE := Lib.hid fun (W : World) (g6 c6 : Nat) h1 h2 => eqT_yes (some ⟨g3, 0, none⟩) (some ⟨g6, 0, none⟩) g3 0 c3 g6 0 c6 xs W hl h1 h2
  go_wp2_with fail
  go_region_with (first
    | (go_at_call 19; refine F8.out.mono ?_; rintro e w8 ⟨g6, c6, rfl, h82, HX8⟩; have HX82 := Lib.hid (HX7.out.below HX8.out.2))
    | (go_at_call 22; refine (FE.out _ _ _ HX82.out HX8.out.1).mono ?_; rintro e w9 ⟨rfl, hb9⟩; have HB9 := Lib.hid (HX8.out.2.trans (hb9.mono HX8.out.2.size)); clear hb9))
  all_goals (
    have HC9 := Lib.hid (HC7.out.step HB9.out)
    have HI9 := Lib.hid (HI7.out.below HB9.out)
    have hbox9 := HC9.out.box
    clear hbox7 hx7 h82 F8 FE
    go_wp2_with fail
    refine (FI.out _ HC9.out.below).mono ?_
    rintro e wa ⟨rfl, hsa, _, _, hb⟩
    have HCa := Lib.hid (HC9.out.step hb)
    have HIa := Lib.hid (HI9.out.below hb)
    have HJa := Lib.hid hsa
    clear hb hsa hbox9
    go_wp2_with fail
    refine (eqZ_yes _ _ _ _ _ _ l _ hl1 HIa.out HJa.out).mono ?_
    rintro e wb ⟨rfl, hb⟩
    have HCb := Lib.hid (HCa.out.step hb)
    clear hb
    go_wp2
    go_ret
    exact ⟨rfl, HCb.out.below⟩)

set_option maxRecDepth 100000 in
theorem lifted (os : Os) (started : os.Started) (H : Type) (enc : TypeId × Value → H) :
    ReturnsInHanded {} Try.checked os 10 .any (Rows.fnExactBestAskSpec.pre6 enc Try.prog Try.f10 Rows.fnExactBestAskRow.domain false) (Rows.fnExactBestAskSpec.post enc Try.prog Try.f10 false true false false) := by
  refine returnsInHanded_of_change (C := Try.checked) own started (by kernel_rfl) Try.func10
    (ChangeSpec.witness6 (enc := enc) (C := Try.checked) false ⟨#[], #[.agg #[.slice none 0 0], .slice none 0 0], []⟩ 8 (by kernel_rfl) (by kernel_rfl) (by kernel_rfl) (by kernel_rfl)) ?_
  intro W base args ds gs before hval0 hW hcnd _
  have hval : ∀ (j : Nat) t v, Try.f10.params[j]? = some t → args[j]? = some v → Value.okWide Try.prog W .any base t v := hval0
  have hW' := hW
  obtain ⟨p, q, hA0, hV, rfl, hfz, hnd⟩ := hW
  have hA : DataW.TrodAll enc Try.prog W 0 (fun _ => true) true Try.f10.params.toList args.toList ds p := hA0
  rw [Try.params10] at hA hval
  obtain ⟨v0, vs0, d0, ds0, p0, q0, hargs, rfl, rfl, h0, r0⟩ := trodAll_cons hA
  obtain ⟨v1, vs1, d1, ds1, p1, q1, rfl, rfl, rfl, h1, r1⟩ := trodAll_cons r0
  obtain ⟨rfl, rfl, rfl⟩ := trodAll_nil r1
  obtain rfl : args = #[v0, v1] := by cases args; simp_all
  obtain ⟨rfl, rfl⟩ := trodVars_none hV
  obtain ⟨cs0, rfl, _⟩ := okWide_struct Try.underlying24 (hval 0 24 v0 rfl rfl)
  have k0 := h0
  have lt0 : ∀ x ∈ p0, x.block < W.heap.size := by obtain ⟨m, hm⟩ := k0; exact DataW.trod_lt m _ _ _ hm
  obtain ⟨a0, len0, cap0, z0, rfl, w0⟩ := open_tab Try.underlying24 rfl rfl (by kernel_rfl) h0
  obtain ⟨a1, len1, cap1, rfl⟩ := okWide_slice Try.underlying25 (hval 1 25 v1 rfl rfl)
  have k1 := h1
  have lt1 : ∀ x ∈ p1, x.block < W.heap.size := by obtain ⟨m, hm⟩ := k1; exact DataW.trod_lt m _ _ _ hm
  obtain ⟨z1, w1⟩ : ∃ zs, IsInts W a1 len1 cap1 zs := by
    obtain ⟨fuel, hf⟩ := h1
    rcases open_ints Try.underlying25 Try.underlying3 (by kernel_rfl) hf with ⟨hcs, _⟩ | ⟨x, l, c, zs, hcs, _, hl, hm, hz, _, hcell, hwz⟩
    · simp [Value.cells] at hcs
      obtain ⟨rfl, rfl, rfl⟩ := hcs
      exact ⟨[], .inl ⟨rfl, rfl, rfl, rfl⟩⟩
    · simp [Value.cells] at hcs
      obtain ⟨rfl, rfl, rfl⟩ := hcs
      exact ⟨zs, .inr ⟨_, rfl, hl, hm, by simpa using hz, hcell, hwz⟩⟩
  clear hA0 hval0
  refine (walk a0 len0 cap0 z0 a1 len1 cap1 z1 W w0 w1).mono fun e W' ⟨he, bel⟩ => ?_
  subst he
  exact ⟨_, rfl, _, _, _, [], _, [], hW', trodAll_mk1 (shut_bool Try.underlying4 _), (trodAll_cons_mk (Below.trod laidOut (by kernel_rfl) (of_decide_eq_true (by kernel_rfl)) k0 bel lt0) (trodAll_cons_mk (Below.trod laidOut (by kernel_rfl) (of_decide_eq_true (by kernel_rfl)) k1 bel lt1) trodAll_mk0)), rfl, bel.frame _, fun h => by cases h⟩

theorem closed : joinedFacts Try.pinned.checked.prog 10 Try.f10 Rows.fnExactBestAskSpec Rows.fnExactBestAskRow = true :=
  (and2 (and2 (and2 (and2 (and2 (and2 (and2 (and2 (and2 (and2 (and2 (and2 (and2 (and2 (and2 (and2 (and2 (and2 (and2 (and2 (and2 (and2 (and2 (and2 (and2 (and2 (and2 (and2 (and2 (and2 (and2 (by kernel_rfl) (by kernel_rfl)) (by kernel_rfl)) (by kernel_rfl)) (by kernel_rfl)) (by kernel_rfl)) (by kernel_rfl)) (by kernel_rfl)) (by kernel_rfl)) (by kernel_rfl)) (by kernel_rfl)) (by kernel_rfl)) (by kernel_rfl)) (by kernel_rfl)) (by kernel_rfl)) (by kernel_rfl)) (by kernel_rfl)) (by kernel_rfl)) (by kernel_rfl)) (by kernel_rfl)) (by kernel_rfl)) (by kernel_rfl)) (by kernel_rfl)) (by kernel_rfl)) (by kernel_rfl)) factEnter) factLifts) factMake) (by kernel_rfl)) (by kernel_rfl)) (by kernel_rfl)) (by kernel_rfl))

theorem over : Rows.fnExactBestAskRow.holds Try.pinned (OpenSpec.ofChange Rows.fnExactBestAskSpec) :=
  OpenClaim.holds_of_wide 10 Try.f10 rfl rfl rfl rfl rfl rfl rfl ⟨rfl, rfl, rfl, rfl, rfl⟩ rfl rfl rfl rfl rfl (by kernel_rfl) Try.func10 closed
    (of_decide_eq_true (by kernel_rfl)) (by unfold Func.isWrapper; first | (rw [if_pos (by decide +kernel)]; kernel_rfl) | (rw [if_neg (by decide +kernel)]; exact ⟨rfl, rfl⟩))
    (fun os started H enc _ => lifted os started H enc)

/-- The statement. -/
theorem proved : Rows.FnExactBestAskSaid := over
end Go.Proofs.Ythkafalpjokfeaa.fnExactBestAsk
