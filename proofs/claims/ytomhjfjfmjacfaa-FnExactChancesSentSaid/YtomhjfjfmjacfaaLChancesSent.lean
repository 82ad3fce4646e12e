/-
  FnExactChancesSent at the commit in COMMIT: for all arguments the law returns true and its arguments read as before: ChancesSent of the program answers as the model's ChancesSent. No condition beyond the row's own cells.
-/
import Derived.Test.YtomhjfjfmjacfaaRows
import Derived.WalkKit
import Derived.ProofKit
import Derived.OpenShut
import Derived.ShutString
import Derived.ChangeOld
import Derived.Below
import Derived.Test.YtomhjfjfmjacfaaFacts
import Derived.Test.YtomhjfjfmjacfaaLawP
import Derived.Test.YtomhjfjfmjacfaaPairX
import Derived.Test.YtomhjfjfmjacfaaSntB
import Derived.Deep.RegionWith
namespace Go.Proofs.Ytomhjfjfmjacfaa.fnExactChancesSent
open Go.ChangeShapes Go.WideShapes Go.ChangeAt Go.RowKit
open Go.ChangeMaps (open_string shut_string)
set_option linter.unusedVariables false

theorem own : ownKnob Try.prog.godebug = none := by kernel_rfl
theorem laidOut : laidOutB Try.prog = true := by kernel_rfl

set_option maxHeartbeats 8000000 in
theorem walk (a0 : Option Addr) (len0 cap0 : Nat) (z0 : List ByteArray) (a1 d1 : Int) (a2 : ByteArray) (w : World) (w0 : IsTexts w a0 len0 cap0 z0) (w1 : (Lit.int .i64 a1).wf = true) (x1 : (Lit.int .i64 d1).wf = true) (w2 : a2.size ≤ maxLen) :
    Calls Try.prog 8 #[.agg #[.slice a0 len0 cap0], .agg #[.int .i64 a1, .int .i64 d1], .string a2] w fun e w' => e = .returned (.bool true) ∧ Below w.heap.size w w' := by
  obtain ⟨xs, b, o, rfl, hsrc, hsz, hxl⟩ := isTexts_src w0
  by_cases hs2 : a2.size ≤ 1048576
  rotate_left
  · have w22 := w2
    unfold maxLen at w22
    go_enter Try.func8, Try.ntmps8
    go_wp2
    go_ret
    exact ⟨rfl, (below_alloc _ _).alloc (by simp) _⟩
  have w22 : a2.size ≤ 9223372036854775807 := by omega
  by_cases hbulk : xs.length + bulk xs ≤ 1048576
  rotate_left
  · have F := Lib.hid fun W hb => szT_no a0 b o cap0 xs W (hsrc.below hb) hsz hxl (by omega)
    have HC := Lib.hid (carW_new w a0 xs.length cap0 a1 d1)
    have l1 := HC.out.box
    clear hsrc hsz hxl w0 hbulk
    go_enter Try.func8, Try.ntmps8
    go_wp2_with fail
    refine (F.out _ HC.out.car.below).mono ?_
    rintro e w1 ⟨rfl, hb⟩
    have HC1 := Lib.hid (HC.out.step hb)
    clear hb l1
    go_wp2
    go_ret
    exact ⟨rfl, HC1.out.car.below⟩
  have HLi : Hid (∀ W, Below w.heap.size w W → ListIn W a0 b o xs) := fun W hb => (⟨hsrc, by omega, fun x hx => by
    obtain ⟨j, hj, hjx⟩ := List.getElem_of_mem hx
    have := size_le_bulk xs j x (by rw [List.getElem?_eq_getElem hj, hjx])
    omega⟩ : ListIn w a0 b o xs).below hb
  have hl := (HLi.out w (Below.refl _ _)).len
  have hli := HLi.out w (Below.refl _ _)
  obtain ⟨l, R1, hly, HSp, HIm⟩ := chancesSent_both xs a1 d1 a2 hli.len hli.texts hs2
  have FZ := Lib.hid fun W hb => szT_yes a0 b o cap0 xs W (HLi.out W hb).src hbulk
  have FT := Lib.hid fun W hb => toT_any a0 b o cap0 xs W (HLi.out W hb).src hl
  have FN := Lib.hid fun W => toNoise_any a1 d1 W
  have HTx := Lib.hid hli.texts
  have HC0 := Lib.hid (carW_new w a0 xs.length cap0 a1 d1)
  have l1 := HC0.out.box
  clear hsrc hsz hxl w0 hbulk hli
  go_enter Try.func8, Try.ntmps8
  go_wp2_with fail
  refine (FZ.out _ HC0.out.car.below).mono ?_
  rintro e w1 ⟨k, rfl, hb⟩
  have HC := Lib.hid (HC0.out.step hb)
  have hbox := HC.out.box
  have hno0 := HC.out.noi.cell0
  have hno1 := HC.out.noi.cell1
  have HCq := Lib.hid HC.out.drew
  clear hb l1
  -- the model's answer
  go_upto_region 7 with fail
  go_region_held3 (fun w' => w'.cell? ⟨w.heap.size, 0, none⟩ = some (.slice a0 xs.length cap0) ∧ w'.cell? ⟨w.heap.size + 1, 0, none⟩ = some (.int .i64 a1) ∧ w'.cell? ⟨w.heap.size + 1, 1, none⟩ = some (.int .i64 d1))
    (first
      | exact HC3.out.s
      | exact HCn.out.s
      | exact HC2.out.s
      | exact HCq.out.s)
    ((first
      | (go_at_call 23; refine (FT.out _ HCq.out.car.below).mono ?_; rintro e w2 ⟨v, rfl, ⟨g, c2, rfl, hc2, hg2, hz2, hh2, hf2⟩, hb⟩; have HC2 := Lib.hid (HCq.out.step hb); have LI2 := Lib.hid (listIn_of_holds hh2 hl HTx.out); clear hb hh2 hf2 hz2 hg2)
      | (go_at_call 16; refine (FN.out _).mono ?_; rintro e wn ⟨rfl, hb⟩; have HCn := Lib.hid (HC2.out.step hb); have LIn := Lib.hid (LI2.out.below hb); clear hb)
      | (go_at_call 34; refine (HSp.out wn _ _ _ c2 LIn.out).mono ?_; rintro e w3 ⟨a9, q1, c1, rfl, hs1, hq1, _, hb⟩; have HC3 := Lib.hid (HCn.out.step hb); have HS3 := Lib.hid (And.intro hs1 (fun h : 0 < (prs l).length => srcV_lt hs1 h)); clear hb hs1 hq1)))
  have hbox3 := HC3.out.box
  clear hbox hno0 hno1 HCq
  -- the argument of its own
  go_wp2_with fail
  refine (FT.out _ HC3.out.car.below).mono ?_
  rintro e w4 ⟨v, rfl, ⟨gx, cx, rfl, hcx, hgx, hzx, hhx, hfx⟩, hb⟩
  have HC4 := Lib.hid ((HC3.out.step hb).step (below_alloc w4 (.cells #[.slice (some ⟨gx, 0, none⟩) xs.length cx] 38)))
  have HB4 := Lib.hid ((Bx.nil w4).new (.slice (some ⟨gx, 0, none⟩) xs.length cx) 38)
  have HS4 := Lib.hid ((HS3.out.1.below hb).alloc (.cells #[.slice (some ⟨gx, 0, none⟩) xs.length cx] 38))
  have HX4 := Lib.hid ((src_of_holds hhx).alloc (.cells #[.slice (some ⟨gx, 0, none⟩) xs.length cx] 38))
  have HO4 : Hid (Open (w4.alloc (.cells #[.slice (some ⟨gx, 0, none⟩) xs.length cx] 38)) gx xs.length) := Lib.hid (Open.step (fun j hj => hfx j hj) (below_alloc w4 _) (fun _ => hzx))
  have HN4 : Hid (gx < w4.heap.size ∧ w.heap.size + 1 < gx ∧ (0 < (prs l).length → q1 < gx)) := Lib.hid (by
    have e2 := HC3.out.lt
    exact ⟨hzx, Nat.lt_of_lt_of_le e2 hgx, fun h => Nat.lt_of_lt_of_le (HS3.out.2 h) hgx⟩)
  have hbox4 := HC4.out.box
  have h42 := HB4.out _ (List.mem_cons_self ..)
  clear hb hhx hfx hzx hgx hbox3
  -- the program's answer
  have hno0 := HC4.out.noi.cell0
  have hno1 := HC4.out.noi.cell1
  obtain ⟨X, hX⟩ : ∃ X, X = w4.heap.size := ⟨_, rfl⟩
  have HWX : Hid (X + 1 ≤ (w4.alloc (.cells #[.slice (some ⟨gx, 0, none⟩) xs.length cx] 38)).heap.size) := Lib.hid (by rw [hX]; simp)
  rw [← hX] at HB4 HN4 h42
  go_upto_region 9 with fail
  rw [← hX]
  clear hX
  generalize w4.alloc (.cells #[.slice (some ⟨gx, 0, none⟩) xs.length cx] 38) = W4 at *
  have HBq : Hid (Below W4.heap.size W4 W4.drew) := Lib.hid (Below.refl W4.heap.size W4).drew
  have HSt : Hid (∀ W, Below W4.heap.size W4 W → W.cell? ⟨X, 0, none⟩ = some (.slice (some ⟨gx, 0, none⟩) xs.length cx) ∧ W.cell? ⟨w.heap.size + 1, 0, none⟩ = some (.int .i64 a1) ∧ W.cell? ⟨w.heap.size + 1, 1, none⟩ = some (.int .i64 d1)) := Lib.hid fun W hb => ⟨(HB4.out.step hb) _ (List.mem_cons_self ..), (HC4.out.step hb).noi.cell0, (HC4.out.step hb).noi.cell1⟩
  go_region_held3 (fun w' => w'.cell? ⟨X, 0, none⟩ = some (.slice (some ⟨gx, 0, none⟩) xs.length cx) ∧ w'.cell? ⟨w.heap.size + 1, 0, none⟩ = some (.int .i64 a1) ∧ w'.cell? ⟨w.heap.size + 1, 1, none⟩ = some (.int .i64 d1))
    (first
      | exact HSt.out _ HBt.out
      | exact HSt.out _ HBn.out
      | exact HSt.out _ HBq.out)
    ((first
      | (go_at_call 16; refine (FN.out _).mono ?_; rintro e wn ⟨rfl, hb⟩; have HBn : Hid (Below W4.heap.size W4 wn) := Lib.hid (HBq.out.trans (hb.mono HBq.out.size)); clear hb)
      | (go_at_call 35; refine (HIm.out _ _ _ _ cx (⟨HX4.out.below HBn.out, hl, HTx.out⟩ : ListIn _ _ _ _ _)).mono ?_; rintro e w5 ⟨a3, q3, c3, rfl, hs3, hq3, hf3, hb⟩; have HBt : Hid (Below W4.heap.size W4 w5) := Lib.hid (HBn.out.trans (hb.mono HBn.out.size)); have HS5' := Lib.hid (And.intro hs3 (And.intro hq3 hf3)); clear hb hs3 hq3 hf3)))
  have hb := HBt.out
  obtain ⟨hs3, hq3, hf3⟩ := HS5'.out
  have HC5 := Lib.hid (HC4.out.step hb)
  have HB5 := Lib.hid (HB4.out.step hb)
  have HS5 := Lib.hid (HS4.out.below hb)
  have HX5 := Lib.hid (HX4.out.below hb)
  have HO5 := Lib.hid (HO4.out.step hb (fun h => src_lt HX4.out h))
  have HG5 := Lib.hid hs3
  have HP5 : Hid (Open w5 q3 (prs l).length) := Lib.hid (fun j hj => hf3 j hj)
  have HN5 : Hid (0 < (prs l).length → X < q3 ∧ q3 < w5.heap.size) := Lib.hid (fun h => ⟨Nat.lt_of_lt_of_le (Nat.lt_of_lt_of_le HWX.out HBn.out.size) (hq3 h), srcV_lt hs3 h⟩)
  have hbox5 := HC5.out.box
  have h52 := HB5.out _ (List.mem_cons_self ..)
  clear hb hs3 hq3 hf3 hbox4 h42 hno0 hno1 HBq HSt HBn HBt HS5' HWX
  -- they are one
  go_wp2_with fail
  refine (eqP_yes a3 a9 q3 q1 c3 c1 l _ hly HG5.out HS5.out).mono ?_
  rintro e w6 ⟨rfl, hb⟩
  have HC6 := Lib.hid (HC5.out.step hb)
  have HB6 := Lib.hid (HB5.out.step hb)
  have HS6 := Lib.hid (HS5.out.below hb)
  have HX6 := Lib.hid (HX5.out.below hb)
  have HO6 := Lib.hid (HO5.out.step hb (fun h => src_lt HX5.out h))
  have HG6 := Lib.hid (HG5.out.below hb)
  have HP6 := Lib.hid (HP5.out.step hb (fun h => srcV_lt HG5.out h))
  have hbox6 := HC6.out.box
  have h62 := HB6.out _ (List.mem_cons_self ..)
  have F6 := Lib.hid (toT_drew HC6.out.car HLi.out h62)
  have FE := Lib.hid fun (W : World) (g6 c6 : Nat) h1 h2 => eqT_yes (some ⟨gx, 0, none⟩) (some ⟨g6, 0, none⟩) gx 0 cx g6 0 c6 xs W hl h1 h2
  clear hb hbox5 h52
  -- the argument reads as it did
  go_wp2_with fail
  go_region_with (first
    | (go_at_call 23; refine F6.out.mono ?_; rintro e w7 ⟨g6, c6, rfl, h72, HX7⟩; have HX72 := Lib.hid (HX6.out.below HX7.out.2))
    | (go_at_call 25; refine (FE.out _ _ _ HX72.out HX7.out.1).mono ?_; rintro e w8 ⟨rfl, hb8⟩; have HB8 := Lib.hid (HX7.out.2.trans (hb8.mono HX7.out.2.size)); clear hb8))
  all_goals (
    have HC8 := Lib.hid (HC6.out.step HB8.out)
    have HBx8 := Lib.hid (HB6.out.step HB8.out)
    have HS8 := Lib.hid (HS6.out.below HB8.out)
    have HX8 := Lib.hid (HX6.out.below HB8.out)
    have HO8 := Lib.hid (HO6.out.step HB8.out (fun h => src_lt HX6.out h))
    have HG8 := Lib.hid (HG6.out.below HB8.out)
    have HP8 := Lib.hid (HP6.out.step HB8.out (fun h => srcV_lt HG6.out h))
    have h82 := HBx8.out _ (List.mem_cons_self ..)
    clear hbox6 h62 h72 F6 FE
    -- the argument is marked
    go_wp2_with fail
    refine (markT_any (some ⟨gx, 0, none⟩) gx xs.length cx _ (fun _ => rfl) hl (src_cells HX8.out HO8.out)).mono ?_
    rintro e w9 ⟨rfl, hgr, _⟩
    have HC9 := Lib.hid (HC8.out.grown hgr HN4.out.2.1)
    have HB9 := Lib.hid (HBx8.out.grown hgr (by
      have e1 := HN4.out
      intro p hp
      simp only [List.mem_cons, List.not_mem_nil, or_false] at hp
      subst hp
      show X ≠ gx; omega))
    have HS9 := Lib.hid (HS8.out.grown hgr (fun h => by have := HN4.out.2.2 h; omega))
    have HG9 := Lib.hid (HG8.out.grown hgr (fun h => by have := HN5.out h; have := HN4.out.1; omega))
    have HP9 := Lib.hid (HP8.out.grown hgr (fun h => srcV_lt HG8.out h) (fun h => by have := HN5.out h; have := HN4.out.1; omega))
    have h93 := HB9.out _ (List.mem_cons_self ..)
    clear hgr h82
    -- the answer is the same
    go_wp2_with fail
    refine (eqP_yes a3 a9 q3 q1 c3 c1 l _ hly HG9.out HS9.out).mono ?_
    rintro e wa ⟨rfl, hb⟩
    have HCa := Lib.hid (HC9.out.step hb)
    have HBa := Lib.hid (HB9.out.step hb)
    have HSa := Lib.hid (HS9.out.below hb)
    have HGa := Lib.hid (HG9.out.below hb)
    have HPa := Lib.hid (HP9.out.step hb (fun h => srcV_lt HG9.out h))
    have ha3 := HBa.out _ (List.mem_cons_self ..)
    obtain ⟨qm, hsm, hom, hmm, hbm, hqm⟩ := mark_blockV HGa.out HPa.out HBa.out HCa.out.lt (fun h => by
      have e0 := HN5.out h
      have e1 := HN4.out
      refine ⟨by omega, fun p hp => ?_⟩
      simp only [List.mem_cons, List.not_mem_nil, or_false] at hp
      subst hp
      show X ≠ q3; omega)
    have HQ := Lib.hid (And.intro hsm (And.intro hom (And.intro hmm (And.intro hbm hqm))))
    clear hb h93 hsm hom hmm hbm hqm
    -- the answer is marked
    go_wp2_with fail
    refine (markP_any a3 qm l c3 _ HQ.out.1.1 hly (srcV_cells HQ.out.1 HQ.out.2.1)).mono ?_
    rintro e wb ⟨rfl, hgr, hd⟩
    have HCb := Lib.hid (HCa.out.grown hgr HQ.out.2.2.1)
    have HBb := Lib.hid (HBa.out.grown hgr HQ.out.2.2.2.1)
    have HSb := Lib.hid (HSa.out.grown hgr (fun h => by have := HQ.out.2.2.2.2 h; have := HN5.out h; have := HN4.out.2.2 h; have := HN4.out.1; omega))
    have HDb := Lib.hid hd
    have hb3 := HBb.out _ (List.mem_cons_self ..)
    have hboxb := HCb.out.box
    clear hgr hd ha3
    -- the marks are held
    go_wp2_with fail
    refine (heldP_any a3 qm l c3 _ HQ.out.1.1 hly HDb.out).mono ?_
    rintro e wc ⟨rfl, hb⟩
    have HCc := Lib.hid (HCb.out.step hb)
    have HSc := Lib.hid (HSb.out.below hb)
    have HDc := Lib.hid (marksI_below HDb.out hb)
    have hboxc := HCc.out.box
    clear hb hb3 hboxb
    -- once more
    have hno0 := HCc.out.noi.cell0
    have hno1 := HCc.out.noi.cell1
    have HCq := Lib.hid HCc.out.drew
    have HBq : Hid (Below wc.heap.size wc wc.drew) := Lib.hid (Below.refl wc.heap.size wc).drew
    go_upto_region 26 with fail
    go_region_held3 (fun w' => w'.cell? ⟨w.heap.size, 0, none⟩ = some (.slice a0 xs.length cap0) ∧ w'.cell? ⟨w.heap.size + 1, 0, none⟩ = some (.int .i64 a1) ∧ w'.cell? ⟨w.heap.size + 1, 1, none⟩ = some (.int .i64 d1))
      (first
        | exact (HCc.out.step HBe.out).s
        | exact (HCc.out.step HBn.out).s
        | exact (HCc.out.step HBd.out).s
        | exact HCq.out.s)
      ((first
        | (go_at_call 23; refine (FT.out _ HCq.out.car.below).mono ?_; rintro e wd ⟨v, rfl, ⟨gd, cd, rfl, hcd, _, _, hhd, _⟩, hb⟩; have HBd : Hid (Below wc.heap.size wc wd) := Lib.hid (HBq.out.trans (hb.mono HBq.out.size)); have LId := Lib.hid (listIn_of_holds hhd hl HTx.out); clear hb hhd)
        | (go_at_call 16; refine (FN.out _).mono ?_; rintro e wn ⟨rfl, hb⟩; have HBn : Hid (Below wc.heap.size wc wn) := Lib.hid (HBd.out.trans (hb.mono HBd.out.size)); have LIn := Lib.hid (LId.out.below hb); clear hb)
        | (go_at_call 35; refine (HIm.out _ _ _ _ cd LIn.out).mono ?_; rintro e we ⟨a4, q4, c4, rfl, hs4, _, _, hb⟩; have HBe : Hid (Below wc.heap.size wc we) := Lib.hid (HBn.out.trans (hb.mono HBn.out.size)); have HHe := Lib.hid hs4; clear hb hs4)))
    have HCe := Lib.hid (HCc.out.step HBe.out)
    have HSe := Lib.hid (HSc.out.below HBe.out)
    have HDe := Lib.hid (marksI_below HDc.out HBe.out)
    clear hno0 hno1 hboxc
    go_wp2_with fail
    refine (eqP_yes a4 a9 q4 q1 c4 c1 l _ hly HHe.out HSe.out).mono ?_
    rintro e wf ⟨rfl, hb⟩
    have HCf := Lib.hid (HCe.out.step hb)
    have HDf := Lib.hid (marksI_below HDe.out hb)
    clear hb
    go_wp2_with fail
    refine (heldP_any a3 qm l c3 _ HQ.out.1.1 hly HDf.out).mono ?_
    rintro e wg ⟨rfl, hb⟩
    have HCg := Lib.hid (HCf.out.step hb)
    clear hb
    go_wp2
    go_ret
    exact ⟨rfl, HCg.out.car.below⟩)

set_option maxRecDepth 100000 in
theorem lifted (os : Os) (started : os.Started) (H : Type) (enc : TypeId × Value → H) :
    ReturnsInHanded {} Try.checked os 8 .any (Rows.fnExactChancesSentSpec.pre6 enc Try.prog Try.f8 Rows.fnExactChancesSentRow.domain false) (Rows.fnExactChancesSentSpec.post enc Try.prog Try.f8 false true false false) := by
  refine returnsInHanded_of_change (C := Try.checked) own started (by kernel_rfl) Try.func8
    (ChangeSpec.witness6 (enc := enc) (C := Try.checked) false ⟨#[], #[.agg #[.slice none 0 0], .agg #[.int .i64 0, .int .i64 0], .string ByteArray.empty], []⟩ 8 (by kernel_rfl) (by kernel_rfl) (by kernel_rfl) (by kernel_rfl)) ?_
  intro W base args ds gs before hval0 hW hcnd _
  have hval : ∀ (j : Nat) t v, Try.f8.params[j]? = some t → args[j]? = some v → Value.okWide Try.prog W .any base t v := hval0
  have hW' := hW
  obtain ⟨p, q, hA0, hV, rfl, hfz, hnd⟩ := hW
  have hA : DataW.TrodAll enc Try.prog W 0 (fun _ => true) true Try.f8.params.toList args.toList ds p := hA0
  rw [Try.params8] at hA hval
  obtain ⟨v0, vs0, d0, ds0, p0, q0, hargs, rfl, rfl, h0, r0⟩ := trodAll_cons hA
  obtain ⟨v1, vs1, d1, ds1, p1, q1, rfl, rfl, rfl, h1, r1⟩ := trodAll_cons r0
  obtain ⟨v2, vs2, d2, ds2, p2, q2, rfl, rfl, rfl, h2, r2⟩ := trodAll_cons r1
  obtain ⟨rfl, rfl, rfl⟩ := trodAll_nil r2
  obtain rfl : args = #[v0, v1, v2] := by cases args; simp_all
  obtain ⟨rfl, rfl⟩ := trodVars_none hV
  obtain ⟨cs0, rfl, _⟩ := okWide_struct Try.underlying35 (hval 0 35 v0 rfl rfl)
  have k0 := h0
  have lt0 : ∀ x ∈ p0, x.block < W.heap.size := by obtain ⟨m, hm⟩ := k0; exact DataW.trod_lt m _ _ _ hm
  obtain ⟨a0, len0, cap0, z0, rfl, w0⟩ := open_tab Try.underlying35 rfl rfl (by kernel_rfl) h0
  obtain ⟨cs1, rfl, _⟩ := okWide_struct Try.underlying23 (hval 1 23 v1 rfl rfl)
  have k1 := h1
  have lt1 : ∀ x ∈ p1, x.block < W.heap.size := by obtain ⟨m, hm⟩ := k1; exact DataW.trod_lt m _ _ _ hm
  obtain ⟨a1, n1, rfl, w1, x1⟩ := open_noi Try.underlying23 rfl rfl rfl rfl (by kernel_rfl) h1
  obtain ⟨a2, rfl, rfl, rfl, w2⟩ := open_string Try.underlying9 (hval 2 9 v2 rfl rfl) h2
  clear hA0 hval0
  refine (walk a0 len0 cap0 z0 a1 n1 a2 W w0 w1 x1 w2).mono fun e W' ⟨he, bel⟩ => ?_
  subst he
  exact ⟨_, rfl, _, _, _, [], _, [], hW', trodAll_mk1 (shut_bool Try.underlying4 _), (trodAll_cons_mk (Below.trod laidOut (by kernel_rfl) (of_decide_eq_true (by kernel_rfl)) k0 bel lt0) (trodAll_cons_mk (Below.trod laidOut (by kernel_rfl) (of_decide_eq_true (by kernel_rfl)) k1 bel lt1) (trodAll_cons_mk (shut_string Try.underlying9 w2) trodAll_mk0))), rfl, bel.frame _, fun h => by cases h⟩

theorem closed : joinedFacts Try.pinned.checked.prog 8 Try.f8 Rows.fnExactChancesSentSpec Rows.fnExactChancesSentRow = true :=
  (and2 (and2 (and2 (and2 (and2 (and2 (and2 (and2 (and2 (and2 (and2 (and2 (and2 (and2 (and2 (and2 (and2 (and2 (and2 (and2 (and2 (and2 (and2 (and2 (and2 (and2 (and2 (and2 (and2 (and2 (and2 (by kernel_rfl) (by kernel_rfl)) (by kernel_rfl)) (by kernel_rfl)) (by kernel_rfl)) (by kernel_rfl)) (by kernel_rfl)) (by kernel_rfl)) (by kernel_rfl)) (by kernel_rfl)) (by kernel_rfl)) (by kernel_rfl)) (by kernel_rfl)) (by kernel_rfl)) (by kernel_rfl)) (by kernel_rfl)) (by kernel_rfl)) (by kernel_rfl)) (by kernel_rfl)) (by kernel_rfl)) (by kernel_rfl)) (by kernel_rfl)) (by kernel_rfl)) (by kernel_rfl)) (by kernel_rfl)) factEnter) factLifts) factMake) (by kernel_rfl)) (by kernel_rfl)) (by kernel_rfl)) (by kernel_rfl))

theorem over : Rows.fnExactChancesSentRow.holds Try.pinned (OpenSpec.ofChange Rows.fnExactChancesSentSpec) :=
  OpenClaim.holds_of_wide 8 Try.f8 rfl rfl rfl rfl rfl rfl rfl ⟨rfl, rfl, rfl, rfl, rfl⟩ rfl rfl rfl rfl rfl (by kernel_rfl) Try.func8 closed
    (of_decide_eq_true (by kernel_rfl)) (by unfold Func.isWrapper; first | (rw [if_pos (by decide +kernel)]; kernel_rfl) | (rw [if_neg (by decide +kernel)]; exact ⟨rfl, rfl⟩))
    (fun os started H enc _ => lifted os started H enc)

/-- The statement. -/
theorem proved : Rows.FnExactChancesSentSaid := over
end Go.Proofs.Ytomhjfjfmjacfaa.fnExactChancesSent
