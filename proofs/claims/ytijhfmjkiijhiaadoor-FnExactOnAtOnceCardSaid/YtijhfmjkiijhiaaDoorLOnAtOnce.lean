/-
  FnExactOnAtOnce at the commit in COMMIT, the tied card: for all arguments the law returns true and its arguments read as before: OnAtOnce of the program answers as the model's OnAtOnce. No condition beyond the row's own cells (the listed library tables are tied to the program's text by the card).
-/
import Derived.Test.YtijhfmjkiijhiaaDoorCards
import Derived.Test.YtijhfmjkiijhiaaDoorTie
import Derived.Test.YtijhfmjkiijhiaaDoorStep
import Derived.WalkKit
import Derived.ProofKit
import Derived.OpenShut
import Derived.ShutString
import Derived.ChangeOld
import Derived.Below
import Derived.LaidMore
import Derived.Lay
import Derived.Stop.Joined
import Derived.SevenTiedAt
import Derived.Test.YtijhfmjkiijhiaaDoorFacts
import Derived.Test.YtijhfmjkiijhiaaDoorLawW
import Derived.Test.YtijhfmjkiijhiaaDoorSeqX
import Derived.Test.YtijhfmjkiijhiaaDoorOnceS
import Derived.SliceStrings
namespace Go.Proofs.YtijhfmjkiijhiaaDoor.fnExactOnAtOnce
open Go.ChangeShapes Go.WideShapes Go.ChangeAt Go.RowKit
open Go.ChangeMaps (open_string shut_string)
set_option linter.unusedVariables false

theorem own : ownKnob Tryd.prog.godebug = none := by kernel_rfl
theorem laidOut : laidOutB Tryd.prog = true := by kernel_rfl

set_option maxHeartbeats 8000000 in
theorem walk (a0 : Option Addr) (len0 cap0 : Nat) (z0 : List ByteArray) (w : World) (w0 : IsTexts w a0 len0 cap0 z0) :
    Calls Tryd.prog 15 #[.slice a0 len0 cap0] w fun e w' => e = .returned (.bool true) ∧ Below w.heap.size w w' := by
  obtain ⟨xs, b, o, rfl, hsrc, hsz, hxl⟩ := isTexts_src w0
  by_cases hbulk : xs.length + bulk xs ≤ 1048576
  rotate_left
  · have F := Lib.hid (sz_no a0 b o cap0 xs w hsrc hsz hxl (by omega))
    clear hsrc hsz hxl w0 hbulk
    go_enter Tryd.func15, Tryd.ntmps15
    go_wp2_with fail
    refine F.out.mono ?_
    rintro e w1 ⟨rfl, hww⟩
    obtain rfl := hww.symm
    go_wp2
    go_ret
    exact ⟨rfl, Below.refl _ _⟩
  have HTx : Hid (∀ x ∈ xs, x.size ≤ 1048576) := Lib.hid (fun x hx => by
    obtain ⟨j, hj, hjx⟩ := List.getElem_of_mem hx
    have := size_le_bulk xs j x (by rw [List.getElem?_eq_getElem hj, hjx])
    omega)
  have hl : xs.length ≤ 1048576 := by omega
  have HS := Lib.hid fun W (hb : Below w.heap.size w W) => hsrc.below hb
  have FZ := Lib.hid (sz_yes a0 b o cap0 xs w hsrc hbulk)
  have FT := Lib.hid fun W hb => toS_any a0 b o cap0 xs W (HS.out W hb) hl
  obtain ⟨l, R1, hly, HSp, HIm⟩ := once_both xs
  clear hsrc hsz hxl w0 hbulk
  go_enter Tryd.func15, Tryd.ntmps15
  go_wp2_with fail
  refine FZ.out.mono ?_
  rintro e w1 ⟨k0, rfl, hww⟩
  obtain rfl := hww.symm
  go_wp2_with fail
  refine (FT.out _ (Below.refl _ _)).mono ?_
  rintro e w1 ⟨rfl, hz1, hh1, hf1, hb⟩
  have HB1 := Lib.hid hb
  have LI1 := Lib.hid (⟨src_of_holds hh1, hl, HTx.out⟩ : ListIn w1 (some ⟨w.heap.size, 0, none⟩) w.heap.size 0 xs)
  clear hb hz1 hh1 hf1
  -- the model's answer
  go_wp2_with fail
  refine (HSp.out w1 _ _ _ xs.length LI1.out).mono ?_
  rintro e w2 ⟨a1, q1, c1, rfl, hs1, hq1, _, hb⟩
  have HB2 := Lib.hid (HB1.out.trans (hb.mono HB1.out.size))
  have HS2 := Lib.hid (And.intro hs1 (fun h : 0 < (ints l).length => srcV_lt hs1 h))
  clear hb hs1 hq1 LI1
  -- the argument of its own
  go_wp2_with fail
  refine (FT.out _ HB2.out).mono ?_
  rintro e w3 ⟨rfl, hzx, hhx, hfx, hb⟩
  have HB3 := Lib.hid (HB2.out.trans (hb.mono HB2.out.size))
  have HS3 := Lib.hid (HS2.out.1.below hb)
  have HX3 := Lib.hid (src_of_holds hhx)
  have HO3 : Hid (Open w3 w2.heap.size xs.length) := Lib.hid (fun j hj => hfx j hj)
  have HN3 : Hid (w.heap.size ≤ w2.heap.size ∧ w2.heap.size < w3.heap.size ∧ (0 < (ints l).length → q1 < w2.heap.size)) := Lib.hid ⟨HB2.out.size, hzx, fun h => HS2.out.2 h⟩
  clear hb hzx hhx hfx
  -- the program's answer
  go_wp2_with fail
  refine (HIm.out _ _ _ _ xs.length (⟨HX3.out, hl, HTx.out⟩ : ListIn _ _ _ _ _)).mono ?_
  rintro e w4 ⟨a3, q3, c3, rfl, hs3, hq3, hf3, hb⟩
  have HB4 := Lib.hid (HB3.out.trans (hb.mono HB3.out.size))
  have HS4 := Lib.hid (HS3.out.below hb)
  have HX4 := Lib.hid (HX3.out.below hb)
  have HO4 := Lib.hid (HO3.out.step hb (fun h => src_lt HX3.out h))
  have HG4 := Lib.hid hs3
  have HP4 : Hid (Open w4 q3 (ints l).length) := Lib.hid (fun j hj => hf3 j hj)
  have HN4 : Hid (0 < (ints l).length → w2.heap.size < q3 ∧ q3 < w4.heap.size) := Lib.hid (fun h => ⟨Nat.lt_of_lt_of_le HN3.out.2.1 (hq3 h), srcV_lt hs3 h⟩)
  clear hb hs3 hq3 hf3
  go_wp2_with fail
  refine (eqI_yes a3 a1 q3 q1 c3 c1 l _ (by omega) HG4.out HS4.out).mono ?_
  rintro e w5 ⟨rfl, hb⟩
  have HB5 := Lib.hid (HB4.out.trans (hb.mono HB4.out.size))
  have HS5 := Lib.hid (HS4.out.below hb)
  have HX5 := Lib.hid (HX4.out.below hb)
  have HO5 := Lib.hid (HO4.out.step hb (fun h => src_lt HX4.out h))
  have HG5 := Lib.hid (HG4.out.below hb)
  have HP5 := Lib.hid (HP4.out.step hb (fun h => srcV_lt HG4.out h))
  clear hb
  -- the argument reads as it did
  go_wp2_with fail
  refine (FT.out _ HB5.out).mono ?_
  rintro e w6 ⟨rfl, hz6, hh6, _, hb⟩
  have HB6 := Lib.hid (HB5.out.trans (hb.mono HB5.out.size))
  have HS6 := Lib.hid (HS5.out.below hb)
  have HX6 := Lib.hid (HX5.out.below hb)
  have HO6 := Lib.hid (HO5.out.step hb (fun h => src_lt HX5.out h))
  have HG6 := Lib.hid (HG5.out.below hb)
  have HP6 := Lib.hid (HP5.out.step hb (fun h => srcV_lt HG5.out h))
  have HY6 := Lib.hid (src_of_holds hh6 : Src w6 (some ⟨w5.heap.size, 0, none⟩) w5.heap.size 0 xs)
  clear hb hz6 hh6
  go_wp2_with fail
  refine (eqS_yes (some ⟨w2.heap.size, 0, none⟩) (some ⟨w5.heap.size, 0, none⟩) w2.heap.size 0 xs.length w5.heap.size 0 xs.length xs _ hl HX6.out HY6.out).mono ?_
  rintro e w7 ⟨rfl, n7, hn7⟩
  have hb : Below w6.heap.size w6 w7 := by rw [hn7]; exact ⟨rfl, rfl, rfl, Nat.le_refl _, fun _ _ => rfl⟩
  have HB7 := Lib.hid (HB6.out.trans (hb.mono HB6.out.size))
  have HS7 := Lib.hid (HS6.out.below hb)
  have HX7 := Lib.hid (HX6.out.below hb)
  have HO7 := Lib.hid (HO6.out.step hb (fun h => src_lt HX6.out h))
  have HG7 := Lib.hid (HG6.out.below hb)
  have HP7 := Lib.hid (HP6.out.step hb (fun h => srcV_lt HG6.out h))
  clear hb hn7
  -- the argument is marked
  go_wp2_with fail
  refine (mark_any (some ⟨w2.heap.size, 0, none⟩) w2.heap.size xs.length xs.length 1 _ (fun _ => rfl) (Nat.le_refl _) (by omega) (src_cells HX7.out HO7.out)).mono ?_
  rintro e w8 ⟨rfl, hM⟩
  have hgr := hM.grown
  have HB8 : Hid (Below w.heap.size w w8) := Lib.hid (HB7.out.grown hgr HB7.out.size (fun k e => by cases e; exact HN3.out.1))
  have HS8 := Lib.hid (HS7.out.grown hgr (fun h => by have := HN3.out.2.2 h; omega))
  have HG8 := Lib.hid (HG7.out.grown hgr (fun h => by have := HN4.out h; omega))
  have HP8 := Lib.hid (HP7.out.grown hgr (fun h => srcV_lt HG7.out h) (fun h => by have := HN4.out h; omega))
  have hk0 : ¬ ((1 + xs.length : Nat) : Int) < 0 := by omega
  clear hgr hM
  go_wp2_with fail
  refine (eqI_yes a3 a1 q3 q1 c3 c1 l _ (by omega) HG8.out HS8.out).mono ?_
  rintro e w9 ⟨rfl, hb⟩
  have HB9 := Lib.hid (HB8.out.trans (hb.mono HB8.out.size))
  have HS9 := Lib.hid (HS8.out.below hb)
  have HG9 := Lib.hid (HG8.out.below hb)
  have HP9 := Lib.hid (HP8.out.step hb (fun h => srcV_lt HG8.out h))
  obtain ⟨qm, hsm, hom, hmm, hqm⟩ := mark_blockR (m := w.heap.size) HG9.out HP9.out HB9.out.size (fun h => by have := HN4.out h; have := HN3.out.1; omega)
  have HQ := Lib.hid (And.intro hsm (And.intro hom (And.intro hmm hqm)))
  clear hb hsm hom hmm hqm
  -- the answer is marked
  go_wp2_with fail
  refine (markIl_any a3 qm l c3 _ HQ.out.1.1 (by omega) (srcV_cells HQ.out.1 HQ.out.2.1)).mono ?_
  rintro e wa ⟨rfl, hgr, hd⟩
  have HBa : Hid (Below w.heap.size w wa) := Lib.hid (HB9.out.grown hgr HB9.out.size (fun k e => by cases e; exact HQ.out.2.2.1))
  have HSa := Lib.hid (HS9.out.grown hgr (fun h => by have := HQ.out.2.2.2 h; have := HN4.out h; have := HN3.out.2.2 h; omega))
  have HDa := Lib.hid hd
  clear hgr hd
  go_wp2_with fail
  refine (heldIl_any a3 qm l c3 _ HQ.out.1.1 (by omega) HDa.out).mono ?_
  rintro e wb ⟨rfl, hb⟩
  have HBb := Lib.hid (HBa.out.trans (hb.mono HBa.out.size))
  have HSb := Lib.hid (HSa.out.below hb)
  have HDb := Lib.hid (marksI_below HDa.out hb)
  clear hb
  -- once more
  go_wp2_with fail
  refine (FT.out _ HBb.out).mono ?_
  rintro e wc ⟨rfl, hzc, hhc, _, hb⟩
  have HBc := Lib.hid (HBb.out.trans (hb.mono HBb.out.size))
  have HSc := Lib.hid (HSb.out.below hb)
  have HDc := Lib.hid (marksI_below HDb.out hb)
  have LIc := Lib.hid (⟨src_of_holds hhc, hl, HTx.out⟩ : ListIn wc (some ⟨wb.heap.size, 0, none⟩) wb.heap.size 0 xs)
  clear hb hzc hhc
  go_wp2_with fail
  refine (HIm.out _ _ _ _ xs.length LIc.out).mono ?_
  rintro e wd ⟨a4, q4, c4, rfl, hs4, _, _, hb⟩
  have HBd := Lib.hid (HBc.out.trans (hb.mono HBc.out.size))
  have HSd := Lib.hid (HSc.out.below hb)
  have HDd := Lib.hid (marksI_below HDc.out hb)
  have HHd := Lib.hid hs4
  clear hb hs4 LIc
  go_wp2_with fail
  refine (eqI_yes a4 a1 q4 q1 c4 c1 l _ (by omega) HHd.out HSd.out).mono ?_
  rintro e we ⟨rfl, hb⟩
  have HBe := Lib.hid (HBd.out.trans (hb.mono HBd.out.size))
  have HDe := Lib.hid (marksI_below HDd.out hb)
  clear hb
  go_wp2_with fail
  refine (heldIl_any a3 qm l c3 _ HQ.out.1.1 (by omega) HDe.out).mono ?_
  rintro e wf ⟨rfl, hb⟩
  have HBf := Lib.hid (HBe.out.trans (hb.mono HBe.out.size))
  clear hb
  go_wp2
  go_ret
  exact ⟨rfl, HBf.out⟩

set_option maxRecDepth 100000 in
theorem lifted (os : Os) (started : os.Started) (H : Type) (enc : TypeId × Value → H) :
    ReturnsInHanded {} Tryd.checked os 15 .any (fun w args => (Rows.fnExactOnAtOnceSpec.pre enc Tryd.prog Tryd.f15 [] false w args ∧ laidMetH Tryd.prog Rows.fnExactOnAtOnceRow.laid w) ∧ sizedMet enc Tryd.prog Tryd.f15 (OpenSpec.ofChange Rows.fnExactOnAtOnceSpec) false w args)
      (Rows.fnExactOnAtOnceSpec.post enc Tryd.prog Tryd.f15 false true false false) := by
  refine step_shaped (X := fun w => laidMetH Tryd.prog Rows.fnExactOnAtOnceRow.laid w) (fun _ _ hh h => h.of_heap hh) own started (by kernel_rfl) Tryd.func15
    (ChangeSpec.witness_shaped (enc := enc) (C := Tryd.checked) (os := os) (X := fun w _ => laidMetH Tryd.prog Rows.fnExactOnAtOnceRow.laid w) false (World.laidAll Tryd.prog os Rows.fnExactOnAtOnceRow.laid) #[.slice none 0 0] 8 (World.laidAll_os _ _ _) (World.shaped_of_ZipB (by kernel_rfl) (by kernel_rfl)) (by kernel_rfl) (by kernel_rfl) (by kernel_rfl)
      (by rw [MakeChecks.laidMetH_plain _ _ _ (by kernel_rfl)]; exact laidMet_laidAll _ (by kernel_rfl) (by kernel_rfl))) ?_
  intro W base args ds gs before hval0 hW hsh
  have hval : ∀ (j : Nat) t v, Tryd.f15.params[j]? = some t → args[j]? = some v → Value.okWide Tryd.prog W .any base t v := hval0
  have hW' := hW
  obtain ⟨p, q, hA0, hV, rfl, hfz, hnd⟩ := hW
  have hA : DataW.TrodAll enc Tryd.prog W 0 (fun _ => true) true Tryd.f15.params.toList args.toList ds p := hA0
  rw [Tryd.params15] at hA hval
  obtain ⟨v0, vs0, d0, ds0, p0, q0, hargs, rfl, rfl, h0, r0⟩ := trodAll_cons hA
  obtain ⟨rfl, rfl, rfl⟩ := trodAll_nil r0
  obtain rfl : args = #[v0] := by cases args; simp_all
  obtain ⟨rfl, rfl⟩ := trodVars_none hV
  obtain ⟨a0, len0, cap0, rfl⟩ := okWide_slice Tryd.underlying37 (hval 0 37 v0 rfl rfl)
  have k0 := h0
  have lt0 : ∀ x ∈ p0, x.block < W.heap.size := by obtain ⟨m, hm⟩ := k0; exact DataW.trod_lt m _ _ _ hm
  obtain ⟨z0, w0⟩ : ∃ ss, IsTexts W a0 len0 cap0 ss := by
    obtain ⟨fuel, hf⟩ := h0
    rcases open_strings Tryd.underlying37 Tryd.underlying9 (by kernel_rfl) hf with ⟨hcs, _⟩ | ⟨x, l, c, ss, hcs, _, hl, hm, hz, _, hcell, hws⟩
    · simp [Value.cells] at hcs
      obtain ⟨rfl, rfl, rfl⟩ := hcs
      exact ⟨[], .inl ⟨rfl, rfl, rfl, rfl⟩⟩
    · simp [Value.cells] at hcs
      obtain ⟨rfl, rfl, rfl⟩ := hcs
      exact ⟨ss, .inr ⟨_, rfl, hl, hm, by simpa using hz, hcell, hws⟩⟩
  clear hA0 hval0
  refine (walk a0 len0 cap0 z0 W w0).mono fun e W' ⟨he, bel⟩ => ?_
  subst he
  exact ⟨_, rfl, _, _, _, [], _, [], hW', trodAll_mk1 (shut_bool Tryd.underlying4 _), (trodAll_cons_mk (Below.trod laidOut (by kernel_rfl) (of_decide_eq_true (by kernel_rfl)) k0 bel lt0) trodAll_mk0), rfl, bel.frame _, fun h => by cases h⟩

theorem closed : joinedFacts Tryd.pinned.checked.prog 15 Tryd.f15 Rows.fnExactOnAtOnceSpec Rows.fnExactOnAtOnceRow = true :=
  (and2 (and2 (and2 (and2 (and2 (and2 (and2 (and2 (and2 (and2 (and2 (and2 (and2 (and2 (and2 (and2 (and2 (and2 (and2 (and2 (and2 (and2 (and2 (and2 (and2 (and2 (and2 (and2 (and2 (and2 (and2 (by kernel_rfl) (by kernel_rfl)) (by kernel_rfl)) (by kernel_rfl)) (by kernel_rfl)) (by kernel_rfl)) (by kernel_rfl)) (by kernel_rfl)) (by kernel_rfl)) (by kernel_rfl)) (by kernel_rfl)) (by kernel_rfl)) (by kernel_rfl)) (by kernel_rfl)) (by kernel_rfl)) (by kernel_rfl)) (by kernel_rfl)) (by kernel_rfl)) (by kernel_rfl)) (by kernel_rfl)) (by kernel_rfl)) (by kernel_rfl)) (by kernel_rfl)) (by kernel_rfl)) (by kernel_rfl)) factEnter) factLifts) factMake) (by kernel_rfl)) (by kernel_rfl)) (by kernel_rfl)) (by kernel_rfl))

theorem over : Rows.fnExactOnAtOnceRow.holds Tryd.pinned (OpenSpec.ofChange Rows.fnExactOnAtOnceSpec) :=
  OpenClaim.holds_of_wide 15 Tryd.f15 rfl rfl rfl rfl rfl rfl rfl ⟨rfl, rfl, rfl, rfl, rfl⟩ rfl rfl rfl rfl rfl (by kernel_rfl) Tryd.func15 closed
    (of_decide_eq_true (by kernel_rfl)) (by unfold Func.isWrapper; first | (rw [if_pos (by decide +kernel)]; kernel_rfl) | (rw [if_neg (by decide +kernel)]; exact ⟨rfl, rfl⟩))
    (fun os started H enc _ => lifted os started H enc)

theorem plain (f : FuncId) (fn : Func) (hf : Tryd.pinned.checked.prog.funcNamed "loop.example/g01248/laws.FnExactOnAtOnce" = some f) (hfn : Tryd.pinned.checked.prog.funcs[f]? = some fn) :
    false = Tryd.pinned.checked.prog.looks [] ∧ ∀ (j : Nat) t, fn.params[j]? = some t → Tryd.pinned.checked.prog.wantsStandIn t = false := by
  obtain rfl : f = 15 := Option.some.inj ((show Tryd.prog.funcNamed "loop.example/g01248/laws.FnExactOnAtOnce" = some 15 by kernel_rfl).symm.trans hf) |>.symm
  obtain rfl : fn = Tryd.f15 := (Option.some.inj (Tryd.func15.symm.trans hfn)).symm
  refine ⟨by kernel_rfl, fun j t ht => ?_⟩
  rw [Tryd.params15] at ht
  have hm : t ∈ [37] := by simpa using Array.mem_of_getElem? ht
  have hall : ([37].all fun u => !Tryd.prog.wantsStandIn u) = true := by kernel_rfl
  exact (show Tryd.prog.wantsStandIn t = false by simpa using List.all_eq_true.1 hall t hm)

/-- The tied card. -/
theorem proved : Rows.FnExactOnAtOnceCardSaid :=
  Claim7.holds_tied_plain_at .later [] _ _ _ _ over (fun _ h => by cases h) (by kernel_rfl) (fun _ h => by cases h) fnExactOnAtOnce_row_tie rfl ⟨rfl, rfl⟩ (by kernel_rfl) rfl plain (by kernel_rfl)
end Go.Proofs.YtijhfmjkiijhiaaDoor.fnExactOnAtOnce
