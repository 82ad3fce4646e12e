/-
  FnExactBestFrom at the commit in COMMIT: for all arguments the law returns true and its arguments read as before: BestFrom of the program answers as the model's BestFrom. No condition beyond the row's own cells.
-/
import Derived.Test.YtdphjnbelggcfaaRows
import Derived.WalkKit
import Derived.ProofKit
import Derived.OpenShut
import Derived.ShutString
import Derived.ChangeOld
import Derived.Below
import Derived.Test.YtdphjnbelggcfaaFacts
import Derived.Test.YtdphjnbelggcfaaLawW
import Derived.Test.YtdphjnbelggcfaaMarkT
import Derived.Test.YtdphjnbelggcfaaBfmB
namespace Go.Proofs.Ytdphjnbelggcfaa.fnExactBestFrom
open Go.ChangeShapes Go.WideShapes Go.ChangeAt Go.RowKit
open Go.ChangeMaps (open_string shut_string)
set_option linter.unusedVariables false

theorem own : ownKnob Try.prog.godebug = none := by kernel_rfl
theorem laidOut : laidOutB Try.prog = true := by kernel_rfl

set_option maxHeartbeats 8000000 in
theorem walk (a0 : Option Addr) (len0 cap0 : Nat) (z0 : List ByteArray) (a1 : Option Addr) (len1 cap1 : Nat) (z1 : List Int) (w : World) (w0 : IsTexts w a0 len0 cap0 z0) (w1 : IsInts w a1 len1 cap1 z1) :
    Calls Try.prog 17 #[.slice a0 len0 cap0, .slice a1 len1 cap1] w fun e w' => e = .returned (.bool true) ∧ Below w.heap.size w w' := by
  obtain ⟨xs, b, o, rfl, hsrc, hsz, hxl⟩ := isTexts_src w0
  obtain ⟨l, b1, o1, rfl, hsi, _, hl0⟩ := isInts_src w1
  unfold maxLen at hl0
  by_cases hl1 : l.length ≤ 1048576
  rotate_left
  · have h2 : (1048576 : Int) < (l.length : Int) := by omega
    clear hsrc hsz hxl w0 w1 hsi hl1
    go_enter Try.func17, Try.ntmps17
    go_wp2
    go_ret
    exact ⟨rfl, Below.refl _ _⟩
  have h2 : ¬ (1048576 : Int) < (l.length : Int) := by omega
  by_cases hbulk : xs.length + bulk xs ≤ 1048576
  rotate_left
  · have F := Lib.hid (sz_no a0 b o cap0 xs w hsrc hsz hxl (by omega))
    clear hsrc hsz hxl w0 w1 hsi hbulk
    go_enter Try.func17, Try.ntmps17
    go_wp2_with fail
    refine F.out.mono ?_
    rintro e w1 ⟨rfl, hww⟩
    obtain rfl := hww.symm
    go_wp2
    go_ret
    exact ⟨rfl, Below.refl _ _⟩
  have HLi : Hid (∀ W, Below w.heap.size w W → ListIn W a0 b o xs) := fun W hb => (⟨hsrc, by omega, fun x hx => by
    obtain ⟨j, hj, hjx⟩ := List.getElem_of_mem hx
    have := size_le_bulk xs j x (by rw [List.getElem?_eq_getElem hj, hjx])
    omega⟩ : ListIn w a0 b o xs).below hb
  have hl := (HLi.out w (Below.refl _ _)).len
  have hli := HLi.out w (Below.refl _ _)
  obtain ⟨ys, R1, hly, HSp, HIm⟩ := bestFrom_both xs l hli.len hli.texts hl1
  have FZ := Lib.hid (sz_yes a0 b o cap0 xs w hsrc hbulk)
  have FS := Lib.hid fun W hb => toS_any a0 b o cap0 xs W (HLi.out W hb).src hl
  have FI := Lib.hid fun W (hb : Below w.heap.size w W) => toI_any a1 b1 o1 cap1 l W (hsi.below hb) hl1
  have HTx := Lib.hid hli.texts
  clear hsrc hsz hxl w0 w1 hbulk hli hsi
  go_enter Try.func17, Try.ntmps17
  go_wp2_with fail
  refine FZ.out.mono ?_
  rintro e w1 ⟨k, rfl, hww⟩
  obtain rfl := hww.symm
  have HB1 := Lib.hid (Below.refl w.heap.size w)
  -- the model's answer
  go_wp2_with fail
  refine (FS.out _ HB1.out).mono ?_
  rintro e w2 ⟨rfl, _, hh2, _, hb⟩
  have HB2 := Lib.hid (HB1.out.trans (hb.mono HB1.out.size))
  have LI2 := Lib.hid (listIn_of_holds hh2 hl HTx.out)
  clear hb hh2
  go_wp2_with fail
  refine (FI.out _ HB2.out).mono ?_
  rintro e w3 ⟨rfl, hs3, _, _, hb⟩
  have HB3 := Lib.hid (HB2.out.trans (hb.mono HB2.out.size))
  have LI3 := Lib.hid (LI2.out.below hb)
  have HI3 := Lib.hid hs3
  clear hb hs3
  go_wp2_with fail
  refine (HSp.out w3 _ _ _ _ LI3.out _ _ HI3.out).mono ?_
  rintro e w4 ⟨s1, q1, c1, rfl, hs1, hq1, _, hb⟩
  have HB4 : Hid (Below w.heap.size w (w4.alloc (.cells #[.slice s1 ys.length c1] 35))) := Lib.hid ((HB3.out.trans (hb.mono HB3.out.size)).alloc (Nat.le_trans HB3.out.size hb.size) _)
  have HX4 := Lib.hid ((Bx.nil w4).new (.slice s1 ys.length c1) 35)
  have HS4 := Lib.hid (And.intro (hs1.alloc (.cells #[.slice s1 ys.length c1] 35)) (fun h : 0 < ys.length => src_lt hs1 h))
  have HZ4 : Hid (w.heap.size ≤ w4.heap.size) := Lib.hid (Nat.le_trans HB3.out.size hb.size)
  obtain ⟨W4, hW4⟩ : ∃ W4, W4 = w4.alloc (.cells #[.slice s1 ys.length c1] 35) := ⟨_, rfl⟩
  have HY4 : Hid (w4.heap.size < W4.heap.size) := Lib.hid (by rw [hW4]; simp)
  go_wp2_with fail
  rw [← hW4] at HB4 HX4 HS4 ⊢
  clear hb hs1 hq1 LI3 HI3 LI2 hW4
  -- the arguments of its own
  refine (FS.out _ HB4.out).mono ?_
  rintro e w5 ⟨rfl, hlt5, hh5, hf5, hb⟩
  obtain ⟨X0, hX0⟩ : ∃ X0, X0 = W4.heap.size := ⟨_, rfl⟩
  rw [← hX0] at hlt5 hh5 hf5 ⊢
  have HB5 := Lib.hid (HB4.out.trans (hb.mono HB4.out.size))
  have HX5 := Lib.hid (HX4.out.step hb)
  have HS5 := Lib.hid (HS4.out.1.below hb)
  have HA5 := Lib.hid (src_of_holds hh5)
  have HO5 : Hid (Open w5 X0 xs.length) := Lib.hid (fun j hj => hf5 j hj)
  have HY5 : Hid (w4.heap.size < X0 ∧ X0 < w5.heap.size) := Lib.hid ⟨by have := HY4.out; omega, hlt5⟩
  clear hb hh5 hf5 hlt5 hX0
  go_wp2_with fail
  refine (FI.out _ HB5.out).mono ?_
  rintro e w6 ⟨rfl, hs6, ho6, hlt6, hb⟩
  obtain ⟨X1, hX1⟩ : ∃ X1, X1 = w5.heap.size := ⟨_, rfl⟩
  rw [← hX1] at hs6 ho6 hlt6 ⊢
  have HB6 := Lib.hid (HB5.out.trans (hb.mono HB5.out.size))
  have HX6 := Lib.hid (HX5.out.step hb)
  have HS6 := Lib.hid (HS5.out.below hb)
  have HA6 := Lib.hid (HA5.out.below hb)
  have HO6 := Lib.hid (HO5.out.step hb (fun _ => HY5.out.2))
  have HI6 : Hid (Own w6 (some ⟨X1, 0, none⟩) X1 (intz l)) := Lib.hid ⟨hs6, by rw [show (intz l).length = l.length by simp [intz]]; exact ho6, fun _ => hlt6⟩
  have HY6 : Hid (X0 < X1 ∧ X1 < w6.heap.size) := Lib.hid ⟨by have := HY5.out; omega, hlt6⟩
  clear hb hs6 ho6 hlt6 hX1
  -- the program's answer
  go_wp2_with fail
  refine (HIm.out w6 _ _ _ _ (⟨HA6.out, hl, HTx.out⟩ : ListIn _ _ _ _ _) _ _ HI6.out.src).mono ?_
  rintro e w7 ⟨s3, q3, c3, rfl, hs3, hq3, hf3, hb⟩
  have HB7 : Hid (Below w.heap.size w (w7.alloc (.cells #[.slice s3 ys.length c3] 35))) := Lib.hid ((HB6.out.trans (hb.mono HB6.out.size)).alloc (Nat.le_trans HB6.out.size hb.size) _)
  have HX7 := Lib.hid ((HX6.out.step hb).new (.slice s3 ys.length c3) 35)
  have HS7 := Lib.hid ((HS6.out.below hb).alloc (.cells #[.slice s3 ys.length c3] 35))
  have HA7 := Lib.hid ((HA6.out.below hb).alloc (.cells #[.slice s3 ys.length c3] 35))
  have HO7 := Lib.hid ((HO6.out.step hb (fun _ => by have := HY6.out; omega)).step (below_alloc w7 (.cells #[.slice s3 ys.length c3] 35)) (fun _ => by have := HY6.out; have := hb.size; omega))
  have HI7 := Lib.hid ((HI6.out.below hb).below (below_alloc w7 (.cells #[.slice s3 ys.length c3] 35)))
  have HG7 := Lib.hid (hs3.alloc (.cells #[.slice s3 ys.length c3] 35))
  have HP7 : Hid (Open (w7.alloc (.cells #[.slice s3 ys.length c3] 35)) q3 ys.length) := Lib.hid (Open.step (fun j hj => hf3 j hj) (below_alloc w7 _) (fun h => src_lt hs3 h))
  have HN7 : Hid (0 < ys.length → X1 < q3 ∧ q3 < w7.heap.size) := Lib.hid (fun h => ⟨Nat.lt_of_lt_of_le HY6.out.2 (hq3 h), src_lt hs3 h⟩)
  have HM7 : Hid (X1 < w7.heap.size) := Lib.hid (Nat.lt_of_lt_of_le HY6.out.2 hb.size)
  have h73 := HX7.out _ (List.mem_cons_self ..)
  have h71 := HX7.out _ (List.mem_cons_of_mem _ (List.mem_cons_self ..))
  clear hb hs3 hq3 hf3
  -- they are one
  go_wp2_with fail
  refine (eqT_yes s3 s1 q3 0 c3 q1 0 c1 ys _ (by omega) HG7.out HS7.out).mono ?_
  rintro e w8 ⟨rfl, hb⟩
  have HB8 := Lib.hid (HB7.out.trans (hb.mono HB7.out.size))
  have HX8 := Lib.hid (HX7.out.step hb)
  have HS8 := Lib.hid (HS7.out.below hb)
  have HA8 := Lib.hid (HA7.out.below hb)
  have HO8 := Lib.hid (HO7.out.step hb (fun h => src_lt HA7.out h))
  have HI8 := Lib.hid (HI7.out.below hb)
  have HG8 := Lib.hid (HG7.out.below hb)
  have HP8 := Lib.hid (HP7.out.step hb (fun h => src_lt HG7.out h))
  clear hb h73 h71
  -- the arguments read as they did
  go_wp2_with fail
  refine (FS.out _ HB8.out).mono ?_
  rintro e w9 ⟨rfl, _, hh9, _, hb⟩
  have HB9 := Lib.hid (HB8.out.trans (hb.mono HB8.out.size))
  have HX9 := Lib.hid (HX8.out.step hb)
  have HS9 := Lib.hid (HS8.out.below hb)
  have HA9 := Lib.hid (HA8.out.below hb)
  have HO9 := Lib.hid (HO8.out.step hb (fun h => src_lt HA8.out h))
  have HI9 := Lib.hid (HI8.out.below hb)
  have HG9 := Lib.hid (HG8.out.below hb)
  have HP9 := Lib.hid (HP8.out.step hb (fun h => src_lt HG8.out h))
  have HE9 := Lib.hid (src_of_holds hh9)
  clear hb hh9
  go_wp2_with fail
  refine (eqS_yes (some ⟨X0, 0, none⟩) _ X0 0 _ _ 0 _ xs _ hl HA9.out HE9.out).mono ?_
  rintro e wa ⟨rfl, kk, hwa⟩
  have hb : Below w9.heap.size w9 wa := by rw [hwa]; exact ⟨rfl, rfl, rfl, Nat.le_refl _, fun _ _ => rfl⟩
  have HBa := Lib.hid (HB9.out.trans (hb.mono HB9.out.size))
  have HXa := Lib.hid (HX9.out.step hb)
  have HSa := Lib.hid (HS9.out.below hb)
  have HAa := Lib.hid (HA9.out.below hb)
  have HOa := Lib.hid (HO9.out.step hb (fun h => src_lt HA9.out h))
  have HIa := Lib.hid (HI9.out.below hb)
  have HGa := Lib.hid (HG9.out.below hb)
  have HPa := Lib.hid (HP9.out.step hb (fun h => src_lt HG9.out h))
  clear hb hwa
  go_wp2_with fail
  refine (FI.out _ HBa.out).mono ?_
  rintro e wb ⟨rfl, hsb, _, _, hb⟩
  have HBb := Lib.hid (HBa.out.trans (hb.mono HBa.out.size))
  have HXb := Lib.hid (HXa.out.step hb)
  have HSb := Lib.hid (HSa.out.below hb)
  have HAb := Lib.hid (HAa.out.below hb)
  have HOb := Lib.hid (HOa.out.step hb (fun h => src_lt HAa.out h))
  have HIb := Lib.hid (HIa.out.below hb)
  have HGb := Lib.hid (HGa.out.below hb)
  have HPb := Lib.hid (HPa.out.step hb (fun h => src_lt HGa.out h))
  have HEb := Lib.hid hsb
  clear hb hsb
  go_wp2_with fail
  refine (eqZ_yes _ _ _ _ _ _ l _ hl1 HIb.out.src HEb.out).mono ?_
  rintro e wc ⟨rfl, hb⟩
  have HBc := Lib.hid (HBb.out.trans (hb.mono HBb.out.size))
  have HXc := Lib.hid (HXb.out.step hb)
  have HSc := Lib.hid (HSb.out.below hb)
  have HAc := Lib.hid (HAb.out.below hb)
  have HOc := Lib.hid (HOb.out.step hb (fun h => src_lt HAb.out h))
  have HIc := Lib.hid (HIb.out.below hb)
  have HGc := Lib.hid (HGb.out.below hb)
  have HPc := Lib.hid (HPb.out.step hb (fun h => src_lt HGb.out h))
  clear hb
  -- the arguments are marked
  go_wp2_with fail
  refine (mark_any (some ⟨X0, 0, none⟩) X0 xs.length _ 1 _ (fun _ => rfl) (Nat.le_refl _) (by omega) (src_cells HAc.out HOc.out)).mono ?_
  rintro e wd ⟨rfl, hmk⟩
  have hgr := hmk.grown
  have HBd := Lib.hid (grown_below HBc.out hgr (by have := HY5.out; have := HZ4.out; omega))
  have HXd := Lib.hid (HXc.out.grown hgr (by
    intro p hp
    simp only [List.mem_cons, List.not_mem_nil, or_false] at hp
    have e1 := HY5.out
    have e2 := HY6.out
    have e3 := HM7.out
    rcases hp with rfl | rfl
    · show w7.heap.size ≠ X0; omega
    · show w4.heap.size ≠ X0; omega))
  have HSd := Lib.hid (HSc.out.grown hgr (fun h => by have := HS4.out.2 h; have := HY5.out; omega))
  have HId := Lib.hid (HIc.out.grown hgr (fun _ => by have := HY6.out; omega))
  have HGd := Lib.hid (HGc.out.grown hgr (fun h => by have := HN7.out h; have := HY6.out; omega))
  have HPd := Lib.hid (HPc.out.grown hgr (fun h => src_lt HGc.out h) (fun h => by have := HN7.out h; have := HY6.out; omega))
  clear hgr hmk
  go_wp2_with fail
  refine (markN_any (some ⟨X1, 0, none⟩) X1 (intz l) l.length _ (by simp [intz]) (1 + xs.length) _ HId.out hl1 (by omega)).mono ?_
  rintro e we ⟨mk, hmk, rfl, hgr⟩
  have HBe := Lib.hid (grown_below HBd.out hgr (by have := HY5.out; have := HZ4.out; have := HY6.out; omega))
  have HXe := Lib.hid (HXd.out.grown hgr (by
    intro p hp
    simp only [List.mem_cons, List.not_mem_nil, or_false] at hp
    have e1 := HY5.out
    have e2 := HY6.out
    have e3 := HM7.out
    rcases hp with rfl | rfl
    · show w7.heap.size ≠ X1; omega
    · show w4.heap.size ≠ X1; omega))
  have HSe := Lib.hid (HSd.out.grown hgr (fun h => by have := HS4.out.2 h; have := HY5.out; have := HY6.out; omega))
  have HGe := Lib.hid (HGd.out.grown hgr (fun h => by have := HN7.out h; omega))
  have HPe := Lib.hid (HPd.out.grown hgr (fun h => src_lt HGd.out h) (fun h => by have := HN7.out h; omega))
  have he3 := HXe.out _ (List.mem_cons_self ..)
  have he1 := HXe.out _ (List.mem_cons_of_mem _ (List.mem_cons_self ..))
  have hk0 : ¬ (mk : Int) < 0 := by omega
  clear hgr hmk
  -- the answer is the same
  go_wp2_with fail
  refine (eqT_yes s3 s1 q3 0 c3 q1 0 c1 ys _ (by omega) HGe.out HSe.out).mono ?_
  rintro e wf ⟨rfl, hb⟩
  have HBf := Lib.hid (HBe.out.trans (hb.mono HBe.out.size))
  have HXf := Lib.hid (HXe.out.step hb)
  have HSf := Lib.hid (HSe.out.below hb)
  have HGf := Lib.hid (HGe.out.below hb)
  have HPf := Lib.hid (HPe.out.step hb (fun h => src_lt HGe.out h))
  have hf3 := HXf.out _ (List.mem_cons_self ..)
  have HLf : Hid (w.heap.size < wf.heap.size) := Lib.hid (by
    have e1 := HZ4.out; have e2 := HY5.out; have e3 := HY6.out; have e4 := HM7.out
    have := World.block_lt_of_cell? _ _ hf3
    show w.heap.size < wf.heap.size
    have h : w7.heap.size < wf.heap.size := this
    omega)
  obtain ⟨qm, hsm, hom, hmm, hbm, hqm⟩ := mark_block HGf.out HPf.out HXf.out HLf.out (fun h => by
    have e0 := HN7.out h
    have e1 := HZ4.out
    have e2 := HY5.out
    have e3 := HY6.out
    refine ⟨by omega, fun p hp => ?_⟩
    simp only [List.mem_cons, List.not_mem_nil, or_false] at hp
    rcases hp with rfl | rfl
    · show w7.heap.size ≠ q3; omega
    · show w4.heap.size ≠ q3; omega)
  have HQ := Lib.hid (And.intro hsm (And.intro hom (And.intro hmm (And.intro hbm hqm))))
  clear hb he3 he1 hsm hom hmm hbm hqm
  -- the answer is marked
  go_wp2_with fail
  refine (markT_any s3 qm ys.length c3 _ HQ.out.1.1 (by omega) (src_cells HQ.out.1 HQ.out.2.1)).mono ?_
  rintro e wg ⟨rfl, hgr, hd⟩
  have HBg := Lib.hid (grown_below HBf.out hgr (Nat.le_of_lt HQ.out.2.2.1))
  have HXg := Lib.hid (HXf.out.grown hgr HQ.out.2.2.2.1)
  have HSg := Lib.hid (HSf.out.grown hgr (fun h => by have := HQ.out.2.2.2.2 h; have := HN7.out h; have := HS4.out.2 h; have := HY5.out; have := HY6.out; omega))
  have HDg := Lib.hid hd
  have hg3 := HXg.out _ (List.mem_cons_self ..)
  clear hgr hd hf3
  -- the marks are held
  go_wp2_with fail
  refine (heldT_any s3 qm ys.length c3 _ HQ.out.1.1 (by omega) HDg.out).mono ?_
  rintro e wh ⟨rfl, hb⟩
  have HBh := Lib.hid (HBg.out.trans (hb.mono HBg.out.size))
  have HXh := Lib.hid (HXg.out.step hb)
  have HSh := Lib.hid (HSg.out.below hb)
  have HDh := Lib.hid (marks_below HDg.out hb)
  clear hb hg3
  -- once more
  go_wp2_with fail
  refine (FS.out _ HBh.out).mono ?_
  rintro e wi ⟨rfl, _, hhi, _, hb⟩
  have HBi := Lib.hid (HBh.out.trans (hb.mono HBh.out.size))
  have HXi := Lib.hid (HXh.out.step hb)
  have HSi := Lib.hid (HSh.out.below hb)
  have HDi := Lib.hid (marks_below HDh.out hb)
  have LIi := Lib.hid (listIn_of_holds hhi hl HTx.out)
  clear hb hhi
  go_wp2_with fail
  refine (FI.out _ HBi.out).mono ?_
  rintro e wj ⟨rfl, hsj, _, _, hb⟩
  have HBj := Lib.hid (HBi.out.trans (hb.mono HBi.out.size))
  have HXj := Lib.hid (HXi.out.step hb)
  have HSj := Lib.hid (HSi.out.below hb)
  have HDj := Lib.hid (marks_below HDi.out hb)
  have LIj := Lib.hid (LIi.out.below hb)
  have HIj := Lib.hid hsj
  clear hb hsj LIi
  go_wp2_with fail
  refine (HIm.out wj _ _ _ _ LIj.out _ _ HIj.out).mono ?_
  rintro e wk ⟨s4, q4, c4, rfl, hs4, _, _, hb⟩
  have HBk : Hid (Below w.heap.size w (wk.alloc (.cells #[.slice s4 ys.length c4] 35))) := Lib.hid ((HBj.out.trans (hb.mono HBj.out.size)).alloc (Nat.le_trans HBj.out.size hb.size) _)
  have HXk := Lib.hid ((HXj.out.step hb).new (.slice s4 ys.length c4) 35)
  have HSk := Lib.hid ((HSj.out.below hb).alloc (.cells #[.slice s4 ys.length c4] 35))
  have HDk := Lib.hid (marks_below (marks_below HDj.out hb) (below_alloc wk (.cells #[.slice s4 ys.length c4] 35)))
  have HHk := Lib.hid (hs4.alloc (.cells #[.slice s4 ys.length c4] 35))
  have hk4 := HXk.out _ (List.mem_cons_self ..)
  have hk1 := HXk.out _ (List.mem_cons_of_mem _ (List.mem_cons_of_mem _ (List.mem_cons_self ..)))
  clear hb hs4 LIj HIj
  go_wp2_with fail
  refine (eqT_yes s4 s1 q4 0 c4 q1 0 c1 ys _ (by omega) HHk.out HSk.out).mono ?_
  rintro e wl ⟨rfl, hb⟩
  have HBl := Lib.hid (HBk.out.trans (hb.mono HBk.out.size))
  have HXl := Lib.hid (HXk.out.step hb)
  have HDl := Lib.hid (marks_below HDk.out hb)
  have hl3 := HXl.out _ (List.mem_cons_of_mem _ (List.mem_cons_self ..))
  clear hb hk4 hk1
  go_wp2_with fail
  refine (heldT_any s3 qm ys.length c3 _ HQ.out.1.1 (by omega) HDl.out).mono ?_
  rintro e wm ⟨rfl, hb⟩
  have HBm := Lib.hid (HBl.out.trans (hb.mono HBl.out.size))
  clear hb hl3
  go_wp2
  go_ret
  exact ⟨rfl, HBm.out⟩

set_option maxRecDepth 100000 in
theorem lifted (os : Os) (started : os.Started) (H : Type) (enc : TypeId × Value → H) :
    ReturnsInHanded {} Try.checked os 17 .any (Rows.fnExactBestFromSpec.pre6 enc Try.prog Try.f17 Rows.fnExactBestFromRow.domain false) (Rows.fnExactBestFromSpec.post enc Try.prog Try.f17 false true false false) := by
  refine returnsInHanded_of_change (C := Try.checked) own started (by kernel_rfl) Try.func17
    (ChangeSpec.witness6 (enc := enc) (C := Try.checked) false ⟨#[], #[.slice none 0 0, .slice none 0 0], []⟩ 8 (by kernel_rfl) (by kernel_rfl) (by kernel_rfl) (by kernel_rfl)) ?_
  intro W base args ds gs before hval0 hW hcnd _
  have hval : ∀ (j : Nat) t v, Try.f17.params[j]? = some t → args[j]? = some v → Value.okWide Try.prog W .any base t v := hval0
  have hW' := hW
  obtain ⟨p, q, hA0, hV, rfl, hfz, hnd⟩ := hW
  have hA : DataW.TrodAll enc Try.prog W 0 (fun _ => true) true Try.f17.params.toList args.toList ds p := hA0
  rw [Try.params17] at hA hval
  obtain ⟨v0, vs0, d0, ds0, p0, q0, hargs, rfl, rfl, h0, r0⟩ := trodAll_cons hA
  obtain ⟨v1, vs1, d1, ds1, p1, q1, rfl, rfl, rfl, h1, r1⟩ := trodAll_cons r0
  obtain ⟨rfl, rfl, rfl⟩ := trodAll_nil r1
  obtain rfl : args = #[v0, v1] := by cases args; simp_all
  obtain ⟨rfl, rfl⟩ := trodVars_none hV
  obtain ⟨a0, len0, cap0, rfl⟩ := okWide_slice Try.underlying28 (hval 0 28 v0 rfl rfl)
  have k0 := h0
  have lt0 : ∀ x ∈ p0, x.block < W.heap.size := by obtain ⟨m, hm⟩ := k0; exact DataW.trod_lt m _ _ _ hm
  obtain ⟨z0, w0⟩ : ∃ ss, IsTexts W a0 len0 cap0 ss := by
    obtain ⟨fuel, hf⟩ := h0
    rcases open_strings Try.underlying28 Try.underlying9 (by kernel_rfl) hf with ⟨hcs, _⟩ | ⟨x, l, c, ss, hcs, _, hl, hm, hz, _, hcell, hws⟩
    · simp [Value.cells] at hcs
      obtain ⟨rfl, rfl, rfl⟩ := hcs
      exact ⟨[], .inl ⟨rfl, rfl, rfl, rfl⟩⟩
    · simp [Value.cells] at hcs
      obtain ⟨rfl, rfl, rfl⟩ := hcs
      exact ⟨ss, .inr ⟨_, rfl, hl, hm, by simpa using hz, hcell, hws⟩⟩
  obtain ⟨a1, len1, cap1, rfl⟩ := okWide_slice Try.underlying32 (hval 1 32 v1 rfl rfl)
  have k1 := h1
  have lt1 : ∀ x ∈ p1, x.block < W.heap.size := by obtain ⟨m, hm⟩ := k1; exact DataW.trod_lt m _ _ _ hm
  obtain ⟨z1, w1⟩ : ∃ zs, IsInts W a1 len1 cap1 zs := by
    obtain ⟨fuel, hf⟩ := h1
    rcases open_ints Try.underlying32 Try.underlying3 (by kernel_rfl) hf with ⟨hcs, _⟩ | ⟨x, l, c, zs, hcs, _, hl, hm, hz, _, hcell, hwz⟩
    · simp [Value.cells] at hcs
      obtain ⟨rfl, rfl, rfl⟩ := hcs
      exact ⟨[], .inl ⟨rfl, rfl, rfl, rfl⟩⟩
    · simp [Value.cells] at hcs
      obtain ⟨rfl, rfl, rfl⟩ := hcs
      exact ⟨zs, .inr ⟨_, rfl, hl, hm, by simpa using hz, hcell, hwz⟩⟩
  clear hA0 hval0
  refine (walk a0 len0 cap0 z0 a1 len1 cap1 z1 W w0 w1).mono fun e W' ⟨he, bel⟩ => ?_
  subst he
  exact ⟨_, rfl, _, _, _, [], _, [], hW', trodAll_mk1 (shut_bool Try.underlying4 _), (trodAll_cons_mk (Below.trod laidOut (by kernel_rfl) (of_decide_eq_true (by kernel_rfl)) k0 bel lt0) (trodAll_cons_mk (Below.trod laidOut (by kernel_rfl) (of_decide_eq_true (by kernel_rfl)) k1 bel lt1) trodAll_mk0)), rfl, bel.frame _, fun h => by cases h⟩

theorem closed : joinedFacts Try.pinned.checked.prog 17 Try.f17 Rows.fnExactBestFromSpec Rows.fnExactBestFromRow = true :=
  (and2 (and2 (and2 (and2 (and2 (and2 (and2 (and2 (and2 (and2 (and2 (and2 (and2 (and2 (and2 (and2 (and2 (and2 (and2 (and2 (and2 (and2 (and2 (and2 (and2 (and2 (and2 (and2 (and2 (and2 (and2 (by kernel_rfl) (by kernel_rfl)) (by kernel_rfl)) (by kernel_rfl)) (by kernel_rfl)) (by kernel_rfl)) (by kernel_rfl)) (by kernel_rfl)) (by kernel_rfl)) (by kernel_rfl)) (by kernel_rfl)) (by kernel_rfl)) (by kernel_rfl)) (by kernel_rfl)) (by kernel_rfl)) (by kernel_rfl)) (by kernel_rfl)) (by kernel_rfl)) (by kernel_rfl)) (by kernel_rfl)) (by kernel_rfl)) (by kernel_rfl)) (by kernel_rfl)) (by kernel_rfl)) (by kernel_rfl)) factEnter) factLifts) factMake) (by kernel_rfl)) (by kernel_rfl)) (by kernel_rfl)) (by kernel_rfl))

theorem over : Rows.fnExactBestFromRow.holds Try.pinned (OpenSpec.ofChange Rows.fnExactBestFromSpec) :=
  OpenClaim.holds_of_wide 17 Try.f17 rfl rfl rfl rfl rfl rfl rfl ⟨rfl, rfl, rfl, rfl, rfl⟩ rfl rfl rfl rfl rfl (by kernel_rfl) Try.func17 closed
    (of_decide_eq_true (by kernel_rfl)) (by unfold Func.isWrapper; first | (rw [if_pos (by decide +kernel)]; kernel_rfl) | (rw [if_neg (by decide +kernel)]; exact ⟨rfl, rfl⟩))
    (fun os started H enc _ => lifted os started H enc)

/-- The statement. -/
theorem proved : Rows.FnExactBestFromSaid := over
end Go.Proofs.Ytdphjnbelggcfaa.fnExactBestFrom
