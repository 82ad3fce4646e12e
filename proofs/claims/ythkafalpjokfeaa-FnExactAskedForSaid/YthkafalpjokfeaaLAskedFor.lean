/-
  FnExactAskedFor at the commit in COMMIT: for all arguments the law returns true and its arguments read as before: AskedFor of the program answers as the model's AskedFor, and its answer owns its memory. No condition beyond the row's own cells.
-/
import Derived.Test.YthkafalpjokfeaaRows
import Derived.WalkKit
import Derived.ProofKit
import Derived.OpenShut
import Derived.ShutString
import Derived.ChangeOld
import Derived.Below
import Derived.Test.YthkafalpjokfeaaFacts
import Derived.Test.YthkafalpjokfeaaMarkT
import Derived.Test.YthkafalpjokfeaaSeqX
import Derived.Test.YthkafalpjokfeaaAkB
import Derived.Deep.RegionWith
namespace Go.Proofs.Ythkafalpjokfeaa.fnExactAskedFor
open Go.ChangeShapes Go.WideShapes Go.ChangeAt Go.RowKit
open Go.ChangeMaps (open_string shut_string)
set_option linter.unusedVariables false

theorem own : ownKnob Try.prog.godebug = none := by kernel_rfl
theorem laidOut : laidOutB Try.prog = true := by kernel_rfl

set_option maxHeartbeats 8000000 in
theorem walk (a0 : Option Addr) (len0 cap0 : Nat) (z0 : List ByteArray) (a1 : Int) (w : World) (w0 : IsTexts w a0 len0 cap0 z0) (w1 : (Lit.int .i64 a1).wf = true) :
    Calls Try.prog 11 #[.agg #[.slice a0 len0 cap0], .int .i64 a1] w fun e w' => e = .returned (.bool true) ∧ Below w.heap.size w w' := by
  obtain ⟨xs, b, o, rfl, hsrc, hsz, hxl⟩ := isTexts_src w0
  by_cases hbulk : xs.length + bulk xs ≤ 1048576
  rotate_left
  · have F := Lib.hid fun W hb => szT_no a0 b o cap0 xs W (hsrc.below hb) hsz hxl (by omega)
    clear hsrc hsz hxl w0 hbulk
    go_enter Try.func11, Try.ntmps11
    go_wp2_with fail
    refine (F.out _ (below_alloc w _)).mono ?_
    rintro e w1 ⟨rfl, hb⟩
    have HB := Lib.hid ((below_alloc w (.cells #[.slice a0 xs.length cap0] 24)).trans (hb.mono (by simp)))
    clear hb
    go_wp2
    go_ret
    exact ⟨rfl, HB.out⟩
  have HLi : Hid (∀ W, Below w.heap.size w W → ListIn W a0 b o xs) := fun W hb => (⟨hsrc, by omega, fun x hx => by
    obtain ⟨j, hj, hjx⟩ := List.getElem_of_mem hx
    have := size_le_bulk xs j x (by rw [List.getElem?_eq_getElem hj, hjx])
    omega⟩ : ListIn w a0 b o xs).below hb
  have hl := (HLi.out w (Below.refl _ _)).len
  have hli := HLi.out w (Below.refl _ _)
  obtain ⟨l, R1, hly, HSp, HIm⟩ := askedFor_both xs a1 hli.len hli.texts w1
  have FZ := Lib.hid fun W hb => szT_yes a0 b o cap0 xs W (HLi.out W hb).src hbulk
  have FT := Lib.hid fun W hb => toT_any a0 b o cap0 xs W (HLi.out W hb).src hl
  have HTx := Lib.hid hli.texts
  clear hsrc hsz hxl w0 hbulk hli
  go_enter Try.func11, Try.ntmps11
  go_wp2_with fail
  refine (FZ.out _ (below_alloc w _)).mono ?_
  rintro e w1 ⟨k, rfl, hb⟩
  have HC : Hid (Carry w a0 xs.length cap0 w1) := Lib.hid ((Carry.new w a0 xs.length cap0 24).step hb)
  have hbox := HC.out.box
  clear hb
  go_wp2_with fail
  refine (FT.out _ HC.out.below).mono ?_
  rintro e w2 ⟨v, rfl, ⟨g, c2, rfl, hc2, hg2, hz2, hh2, hf2⟩, hb⟩
  have HC2 := Lib.hid (HC.out.step hb)
  have LI2 := Lib.hid (listIn_of_holds hh2 hl HTx.out)
  have hbox2 := HC2.out.box
  clear hb hh2 hf2 hz2 hg2 hbox
  -- the model's answer
  go_wp2_with fail
  refine (HSp.out w2 _ _ _ c2 LI2.out).mono ?_
  rintro e w3 ⟨a1, q1, c1, rfl, hs1, hq1, _, hb⟩
  have HC3 := Lib.hid (HC2.out.step hb)
  have HS3 := Lib.hid (And.intro hs1 (fun h : 0 < (ints l).length => srcV_lt hs1 h))
  have hbox3 := HC3.out.box
  clear hb hbox2 LI2 hs1 hq1
  -- the argument of its own
  go_wp2_with fail
  refine (FT.out _ HC3.out.below).mono ?_
  rintro e w4 ⟨v, rfl, ⟨gx, cx, rfl, hcx, hgx, hzx, hhx, hfx⟩, hb⟩
  have HC4 := Lib.hid ((HC3.out.step hb).step (below_alloc w4 (.cells #[.slice (some ⟨gx, 0, none⟩) xs.length cx] 29)))
  have HB4 := Lib.hid ((Bx.nil w4).new (.slice (some ⟨gx, 0, none⟩) xs.length cx) 29)
  have HS4 := Lib.hid ((HS3.out.1.below hb).alloc (.cells #[.slice (some ⟨gx, 0, none⟩) xs.length cx] 29))
  have HX4 := Lib.hid ((src_of_holds hhx).alloc (.cells #[.slice (some ⟨gx, 0, none⟩) xs.length cx] 29))
  have HO4 : Hid (Open (w4.alloc (.cells #[.slice (some ⟨gx, 0, none⟩) xs.length cx] 29)) gx xs.length) := Lib.hid (Open.step (fun j hj => hfx j hj) (below_alloc w4 _) (fun _ => hzx))
  have HN4 : Hid (gx < w4.heap.size ∧ w.heap.size < gx ∧ (0 < (ints l).length → q1 < gx)) := Lib.hid (by
    have e2 := HC3.out.lt
    exact ⟨hzx, Nat.lt_of_lt_of_le e2 hgx, fun h => Nat.lt_of_lt_of_le (HS3.out.2 h) hgx⟩)
  have hbox4 := HC4.out.box
  have h42 := HB4.out _ (List.mem_cons_self ..)
  clear hb hhx hfx hzx hgx hbox3
  -- the program's answer
  go_wp2_with fail
  refine (HIm.out _ _ _ _ cx (⟨HX4.out, hl, HTx.out⟩ : ListIn _ _ _ _ _)).mono ?_
  rintro e w5 ⟨a3, q3, c3, rfl, hs3, hq3, hf3, hb⟩
  have HC5 := Lib.hid (HC4.out.step hb)
  have HB5 := Lib.hid (HB4.out.step hb)
  have HS5 := Lib.hid (HS4.out.below hb)
  have HX5 := Lib.hid (HX4.out.below hb)
  have HO5 := Lib.hid (HO4.out.step hb (fun h => src_lt HX4.out h))
  have HG5 := Lib.hid hs3
  have HP5 : Hid (Open w5 q3 (ints l).length) := Lib.hid (fun j hj => hf3 j hj)
  have HN5 : Hid (0 < (ints l).length → w4.heap.size < q3 ∧ q3 < w5.heap.size) := Lib.hid (fun h => ⟨Nat.lt_of_lt_of_le (by simp) (hq3 h), srcV_lt hs3 h⟩)
  have hbox5 := HC5.out.box
  have h52 := HB5.out _ (List.mem_cons_self ..)
  clear hb hs3 hq3 hf3 hbox4 h42
  -- they are one
  go_wp2_with fail
  refine (eqI_yes a3 a1 q3 q1 c3 c1 l _ hly HG5.out HS5.out).mono ?_
  rintro e w6 ⟨rfl, hb⟩
  have HC6 := Lib.hid (HC5.out.step hb)
  have HB6 := Lib.hid (HB5.out.step hb)
  have HS6 := Lib.hid (HS5.out.below hb)
  have HX6 := Lib.hid (HX5.out.below hb)
  have HO6 := Lib.hid (HO5.out.step hb (fun h => src_lt HX5.out h))
  have HG6 := Lib.hid (HG5.out.below hb)
  have HP6 := Lib.hid (HP5.out.step hb (fun h => srcV_lt HG5.out h))
  have hbox6 := HC6.out.box
  have h62 := HB6.out _ (List.mem_cons_self ..)
  have F6 := Lib.hid (toT_drew HC6.out HLi.out h62)
  have FE := Lib.hid fun (W : World) (g6 c6 : Nat) h1 h2 => eqT_yes (some ⟨gx, 0, none⟩) (some ⟨g6, 0, none⟩) gx 0 cx g6 0 c6 xs W hl h1 h2
  clear hb hbox5 h52
  -- the argument reads as it did
  go_wp2_with fail
  go_region_with (first
    | (go_at_call 19; refine F6.out.mono ?_; rintro e w7 ⟨g6, c6, rfl, h72, HX7⟩; have HX72 := Lib.hid (HX6.out.below HX7.out.2))
    | (go_at_call 22; refine (FE.out _ _ _ HX72.out HX7.out.1).mono ?_; rintro e w8 ⟨rfl, hb8⟩; have HB8 := Lib.hid (HX7.out.2.trans (hb8.mono HX7.out.2.size)); clear hb8))
  all_goals (
    have HC8 := Lib.hid (HC6.out.step HB8.out)
    have HBx8 := Lib.hid (HB6.out.step HB8.out)
    have HS8 := Lib.hid (HS6.out.below HB8.out)
    have HX8 := Lib.hid (HX6.out.below HB8.out)
    have HO8 := Lib.hid (HO6.out.step HB8.out (fun h => src_lt HX6.out h))
    have HG8 := Lib.hid (HG6.out.below HB8.out)
    have HP8 := Lib.hid (HP6.out.step HB8.out (fun h => srcV_lt HG6.out h))
    have h82 := HBx8.out _ (List.mem_cons_self ..)
    clear hbox6 h62 h72 F6 FE
    -- the argument is marked
    go_wp2_with fail
    refine (markT_any (some ⟨gx, 0, none⟩) gx xs.length cx _ (fun _ => rfl) hl (src_cells HX8.out HO8.out)).mono ?_
    rintro e w9 ⟨rfl, hgr, _⟩
    have HC9 := Lib.hid (HC8.out.grown hgr HN4.out.2.1)
    have HB9 := Lib.hid (HBx8.out.grown hgr (by
      have e1 := HN4.out
      intro p hp
      simp only [List.mem_cons, List.not_mem_nil, or_false] at hp
      subst hp
      show w4.heap.size ≠ gx; omega))
    have HS9 := Lib.hid (HS8.out.grown hgr (fun h => by have := HN4.out.2.2 h; omega))
    have HG9 := Lib.hid (HG8.out.grown hgr (fun h => by have := HN5.out h; have := HN4.out.1; omega))
    have HP9 := Lib.hid (HP8.out.grown hgr (fun h => srcV_lt HG8.out h) (fun h => by have := HN5.out h; have := HN4.out.1; omega))
    have h93 := HB9.out _ (List.mem_cons_self ..)
    clear hgr h82
    -- the answer is the same
    go_wp2_with fail
    refine (eqI_yes a3 a1 q3 q1 c3 c1 l _ hly HG9.out HS9.out).mono ?_
    rintro e wa ⟨rfl, hb⟩
    have HCa := Lib.hid (HC9.out.step hb)
    have HBa := Lib.hid (HB9.out.step hb)
    have HSa := Lib.hid (HS9.out.below hb)
    have HGa := Lib.hid (HG9.out.below hb)
    have HPa := Lib.hid (HP9.out.step hb (fun h => srcV_lt HG9.out h))
    have ha3 := HBa.out _ (List.mem_cons_self ..)
    obtain ⟨qm, hsm, hom, hmm, hbm, hqm⟩ := mark_blockV HGa.out HPa.out HBa.out HCa.out.lt (fun h => by
      have e0 := HN5.out h
      have e1 := HN4.out
      refine ⟨by omega, fun p hp => ?_⟩
      simp only [List.mem_cons, List.not_mem_nil, or_false] at hp
      subst hp
      show w4.heap.size ≠ q3; omega)
    have HQ := Lib.hid (And.intro hsm (And.intro hom (And.intro hmm (And.intro hbm hqm))))
    clear hb h93 hsm hom hmm hbm hqm
    -- the answer is marked
    go_wp2_with fail
    refine (markIl_any a3 qm l c3 _ HQ.out.1.1 hly (srcV_cells HQ.out.1 HQ.out.2.1)).mono ?_
    rintro e wb ⟨rfl, hgr, hd⟩
    have HCb := Lib.hid (HCa.out.grown hgr HQ.out.2.2.1)
    have HBb := Lib.hid (HBa.out.grown hgr HQ.out.2.2.2.1)
    have HSb := Lib.hid (HSa.out.grown hgr (fun h => by have := HQ.out.2.2.2.2 h; have := HN5.out h; have := HN4.out.2.2 h; have := HN4.out.1; omega))
    have HDb := Lib.hid hd
    have hb3 := HBb.out _ (List.mem_cons_self ..)
    have hboxb := HCb.out.box
    clear hgr hd ha3
    -- the marks are held
    go_wp2_with fail
    refine (heldIl_any a3 qm l c3 _ HQ.out.1.1 hly HDb.out).mono ?_
    rintro e wc ⟨rfl, hb⟩
    have HCc := Lib.hid (HCb.out.step hb)
    have HSc := Lib.hid (HSb.out.below hb)
    have HDc := Lib.hid (marksI_below HDb.out hb)
    have hboxc := HCc.out.box
    clear hb hb3 hboxb
    -- once more
    go_wp2_with fail
    refine (FT.out _ HCc.out.below).mono ?_
    rintro e wd ⟨v, rfl, ⟨gd, cd, rfl, hcd, _, _, hhd, _⟩, hb⟩
    have HCd := Lib.hid (HCc.out.step hb)
    have HSd := Lib.hid (HSc.out.below hb)
    have HDd := Lib.hid (marksI_below HDc.out hb)
    have LId := Lib.hid (listIn_of_holds hhd hl HTx.out)
    clear hb hhd hboxc
    go_wp2_with fail
    refine (HIm.out _ _ _ _ cd LId.out).mono ?_
    rintro e we ⟨a4, q4, c4, rfl, hs4, _, _, hb⟩
    have HCe := Lib.hid (HCd.out.step hb)
    have HSe := Lib.hid (HSd.out.below hb)
    have HDe := Lib.hid (marksI_below HDd.out hb)
    have HHe := Lib.hid hs4
    clear hb hs4 LId
    go_wp2_with fail
    refine (eqI_yes a4 a1 q4 q1 c4 c1 l _ hly HHe.out HSe.out).mono ?_
    rintro e wf ⟨rfl, hb⟩
    have HCf := Lib.hid (HCe.out.step hb)
    have HDf := Lib.hid (marksI_below HDe.out hb)
    clear hb
    go_wp2_with fail
    refine (heldIl_any a3 qm l c3 _ HQ.out.1.1 hly HDf.out).mono ?_
    rintro e wg ⟨rfl, hb⟩
    have HCg := Lib.hid (HCf.out.step hb)
    clear hb
    go_wp2
    go_ret
    exact ⟨rfl, HCg.out.below⟩)

set_option maxRecDepth 100000 in
theorem lifted (os : Os) (started : os.Started) (H : Type) (enc : TypeId × Value → H) :
    ReturnsInHanded {} Try.checked os 11 .any (Rows.fnExactAskedForSpec.pre6 enc Try.prog Try.f11 Rows.fnExactAskedForRow.domain false) (Rows.fnExactAskedForSpec.post enc Try.prog Try.f11 false true false false) := by
  refine returnsInHanded_of_change (C := Try.checked) own started (by kernel_rfl) Try.func11
    (ChangeSpec.witness6 (enc := enc) (C := Try.checked) false ⟨#[], #[.agg #[.slice none 0 0], .int .i64 0], []⟩ 8 (by kernel_rfl) (by kernel_rfl) (by kernel_rfl) (by kernel_rfl)) ?_
  intro W base args ds gs before hval0 hW hcnd _
  have hval : ∀ (j : Nat) t v, Try.f11.params[j]? = some t → args[j]? = some v → Value.okWide Try.prog W .any base t v := hval0
  have hW' := hW
  obtain ⟨p, q, hA0, hV, rfl, hfz, hnd⟩ := hW
  have hA : DataW.TrodAll enc Try.prog W 0 (fun _ => true) true Try.f11.params.toList args.toList ds p := hA0
  rw [Try.params11] at hA hval
  obtain ⟨v0, vs0, d0, ds0, p0, q0, hargs, rfl, rfl, h0, r0⟩ := trodAll_cons hA
  obtain ⟨v1, vs1, d1, ds1, p1, q1, rfl, rfl, rfl, h1, r1⟩ := trodAll_cons r0
  obtain ⟨rfl, rfl, rfl⟩ := trodAll_nil r1
  obtain rfl : args = #[v0, v1] := by cases args; simp_all
  obtain ⟨rfl, rfl⟩ := trodVars_none hV
  obtain ⟨cs0, rfl, _⟩ := okWide_struct Try.underlying24 (hval 0 24 v0 rfl rfl)
  have k0 := h0
  have lt0 : ∀ x ∈ p0, x.block < W.heap.size := by obtain ⟨m, hm⟩ := k0; exact DataW.trod_lt m _ _ _ hm
  obtain ⟨a0, len0, cap0, z0, rfl, w0⟩ := open_tab Try.underlying24 rfl rfl (by kernel_rfl) h0
  obtain ⟨a1, rfl, rfl, rfl, w1⟩ := open_int Try.underlying3 (hval 1 3 v1 rfl rfl) h1
  clear hA0 hval0
  refine (walk a0 len0 cap0 z0 a1 W w0 w1).mono fun e W' ⟨he, bel⟩ => ?_
  subst he
  exact ⟨_, rfl, _, _, _, [], _, [], hW', trodAll_mk1 (shut_bool Try.underlying4 _), (trodAll_cons_mk (Below.trod laidOut (by kernel_rfl) (of_decide_eq_true (by kernel_rfl)) k0 bel lt0) (trodAll_cons_mk (shut_int Try.underlying3 w1) trodAll_mk0)), rfl, bel.frame _, fun h => by cases h⟩

theorem closed : joinedFacts Try.pinned.checked.prog 11 Try.f11 Rows.fnExactAskedForSpec Rows.fnExactAskedForRow = true :=
  (and2 (and2 (and2 (and2 (and2 (and2 (and2 (and2 (and2 (and2 (and2 (and2 (and2 (and2 (and2 (and2 (and2 (and2 (and2 (and2 (and2 (and2 (and2 (and2 (and2 (and2 (and2 (and2 (and2 (and2 (and2 (by kernel_rfl) (by kernel_rfl)) (by kernel_rfl)) (by kernel_rfl)) (by kernel_rfl)) (by kernel_rfl)) (by kernel_rfl)) (by kernel_rfl)) (by kernel_rfl)) (by kernel_rfl)) (by kernel_rfl)) (by kernel_rfl)) (by kernel_rfl)) (by kernel_rfl)) (by kernel_rfl)) (by kernel_rfl)) (by kernel_rfl)) (by kernel_rfl)) (by kernel_rfl)) (by kernel_rfl)) (by kernel_rfl)) (by kernel_rfl)) (by kernel_rfl)) (by kernel_rfl)) (by kernel_rfl)) factEnter) factLifts) factMake) (by kernel_rfl)) (by kernel_rfl)) (by kernel_rfl)) (by kernel_rfl))

theorem over : Rows.fnExactAskedForRow.holds Try.pinned (OpenSpec.ofChange Rows.fnExactAskedForSpec) :=
  OpenClaim.holds_of_wide 11 Try.f11 rfl rfl rfl rfl rfl rfl rfl ⟨rfl, rfl, rfl, rfl, rfl⟩ rfl rfl rfl rfl rfl (by kernel_rfl) Try.func11 closed
    (of_decide_eq_true (by kernel_rfl)) (by unfold Func.isWrapper; first | (rw [if_pos (by decide +kernel)]; kernel_rfl) | (rw [if_neg (by decide +kernel)]; exact ⟨rfl, rfl⟩))
    (fun os started H enc _ => lifted os started H enc)

/-- The statement. -/
theorem proved : Rows.FnExactAskedForSaid := over
end Go.Proofs.Ythkafalpjokfeaa.fnExactAskedFor
