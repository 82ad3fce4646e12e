/-
  FnExactMeanWrong at the commit in COMMIT: for all arguments the law returns true and its arguments read as before: MeanWrong of the program answers as the model's MeanWrong. No condition beyond the row's own cells.
-/
import Derived.Test.YtomhjfjfmjacfaaRows
import Derived.WalkKit
import Derived.ProofKit
import Derived.OpenShut
import Derived.ShutString
import Derived.ChangeOld
import Derived.Below
import Derived.Test.YtomhjfjfmjacfaaFacts
import Derived.Test.YtomhjfjfmjacfaaLawN
import Derived.Test.YtomhjfjfmjacfaaMwS
import Derived.Deep.RegionWith
namespace Go.Proofs.Ytomhjfjfmjacfaa.fnExactMeanWrong
open Go.ChangeShapes Go.WideShapes Go.ChangeAt Go.RowKit
open Go.ChangeMaps (open_string shut_string)
set_option linter.unusedVariables false

theorem own : ownKnob Try.prog.godebug = none := by kernel_rfl
theorem laidOut : laidOutB Try.prog = true := by kernel_rfl

set_option maxHeartbeats 4000000 in
set_option maxRecDepth 20000 in
theorem walk (a0 : Option Addr) (len0 cap0 : Nat) (z0 : List ByteArray) (a1 d1 : Int) (a2 : ByteArray) (w : World) (w0 : IsTexts w a0 len0 cap0 z0) (w1 : (Lit.int .i64 a1).wf = true) (x1 : (Lit.int .i64 d1).wf = true) (w2 : a2.size ≤ maxLen) :
    Calls Try.prog 10 #[.agg #[.slice a0 len0 cap0], .agg #[.int .i64 a1, .int .i64 d1], .string a2] w fun e w' => e = .returned (.bool true) ∧ Below w.heap.size w w' := by
  obtain ⟨xs, b, o, rfl, hsrc, hsz, hxl⟩ := isTexts_src w0
  by_cases hs2 : a2.size ≤ 1048576
  rotate_left
  · have w22 := w2
    unfold maxLen at w22
    go_enter Try.func10, Try.ntmps10
    go_wp2
    go_ret
    exact ⟨rfl, (below_alloc _ _).alloc (by simp) _⟩
  have w22 : a2.size ≤ 9223372036854775807 := by omega
  by_cases hbulk : xs.length + bulk xs ≤ 1048576
  rotate_left
  · have F := Lib.hid fun W hb => szT_no a0 b o cap0 xs W (hsrc.below hb) hsz hxl (by omega)
    have HC := Lib.hid (carW_new w a0 xs.length cap0 a1 d1)
    have l1 := HC.out.box
    clear hsrc hsz hxl w0 hbulk
    go_enter Try.func10, Try.ntmps10
    go_wp2_with fail
    refine (F.out _ HC.out.car.below).mono ?_
    rintro e w1 ⟨rfl, hb⟩
    have HC1 := Lib.hid (HC.out.step hb)
    clear hb l1
    go_wp2
    go_ret
    exact ⟨rfl, HC1.out.car.below⟩
  have HLi : Hid (∀ W, Below w.heap.size w W → ListIn W a0 b o xs) := fun W hb => (⟨hsrc, by omega, fun x hx => by
    obtain ⟨j, hj, hjx⟩ := List.getElem_of_mem hx
    have := size_le_bulk xs j x (by rw [List.getElem?_eq_getElem hj, hjx])
    omega⟩ : ListIn w a0 b o xs).below hb
  have hl := (HLi.out w (Below.refl _ _)).len
  have hli := HLi.out w (Below.refl _ _)
  obtain ⟨R0, R2, R1, HSp, HIm⟩ := meanWrong_both xs a1 d1 a2 hl hli.texts hs2
  have FZ := Lib.hid fun W hb => szT_yes a0 b o cap0 xs W (HLi.out W hb).src hbulk
  have FT := Lib.hid fun W hb => toT_any a0 b o cap0 xs W (HLi.out W hb).src hl
  have FN := Lib.hid fun W => toNoise_any a1 d1 W
  have HTx := Lib.hid hli.texts
  have HC0 := Lib.hid (carW_new w a0 xs.length cap0 a1 d1)
  have l1 := HC0.out.box
  clear hsrc hsz hxl w0 hbulk hli
  go_enter Try.func10, Try.ntmps10
  go_wp2_with fail
  refine (FZ.out _ HC0.out.car.below).mono ?_
  rintro e w1 ⟨k, rfl, hb⟩
  have HC := Lib.hid (HC0.out.step hb)
  have hbox := HC.out.box
  have hno0 := HC.out.noi.cell0
  have hno1 := HC.out.noi.cell1
  have HBd : Hid (Below w1.heap.size w1 w1.drew) := Lib.hid (Below.refl w1.heap.size w1).drew
  have HBa : Hid (Below w1.heap.size w1 (w1.alloc (.cells #[.int .i64 0, .int .i64 0] 28)).drew) := Lib.hid (below_alloc w1 (.cells #[.int .i64 0, .int .i64 0] 28)).drew
  have HZa : Hid (Two (w1.alloc (.cells #[.int .i64 0, .int .i64 0] 28)).drew w1.heap.size 0 0) := Lib.hid (two_new w1 0 0)
  clear hb l1
  go_upto_region 7 with fail
  go_cut [8, 9] from 21 to 29 (fun s1 s2 wx => ∃ g : Nat, s1 = .pointer (some ⟨g, 0, none⟩) ∧ s2 = .bool R1 ∧ Hid (CarW w a0 xs.length cap0 a1 d1 wx ∧ Two wx g R0 R2))
  case first =>
    go_region_held3 (fun w' => w'.cell? ⟨w.heap.size, 0, none⟩ = some (.slice a0 xs.length cap0) ∧ w'.cell? ⟨w.heap.size + 1, 0, none⟩ = some (.int .i64 a1) ∧ w'.cell? ⟨w.heap.size + 1, 1, none⟩ = some (.int .i64 d1))
      (first
        | with_reducible exact (HC.out.step HB4.out).s
        | with_reducible exact (HC.out.step (HB4.out.alloc HB4.out.size (.cells #[.int .i64 0, .int .i64 0] 28))).s
        | with_reducible exact (HC.out.step ((HB4.out.setCell (p := ⟨w1.heap.size, 0, none⟩) (Nat.le_refl _) _).setCell (p := ⟨w1.heap.size, 1, none⟩) (Nat.le_refl _) _)).s
        | with_reducible exact (HC.out.step ((HB4.out.setCell (p := ⟨w2.heap.size, 0, none⟩) HB2.out.size _).setCell (p := ⟨w2.heap.size, 1, none⟩) HB2.out.size _)).s
        | with_reducible exact (HC.out.step ((HB4.out.setCell (p := ⟨w3.heap.size, 0, none⟩) HB3.out.size _).setCell (p := ⟨w3.heap.size, 1, none⟩) HB3.out.size _)).s
        | with_reducible exact (HC.out.step (HB4.out.alloc HB4.out.size _)).s
        | with_reducible exact (HC.out.step HB3.out).s
        | with_reducible exact (HC.out.step (HB3.out.alloc HB3.out.size (.cells #[.int .i64 0, .int .i64 0] 28))).s
        | with_reducible exact (HC.out.step HB2.out).s
        | with_reducible exact (HC.out.step (HB2.out.alloc HB2.out.size (.cells #[.int .i64 0, .int .i64 0] 28))).s
        | with_reducible exact (HC.out.step HBd.out).s
        | with_reducible exact (HC.out.step HBa.out).s)
      ((first
        | (go_at_call 23; refine (FT.out _ (by first | with_reducible exact (HC.out.step HBd.out).car.below | with_reducible exact (HC.out.step HBa.out).car.below)).mono ?_; rintro e w2 ⟨v, rfl, ⟨g, c2, rfl, hc2, hg2, hz2, hh2, hf2⟩, hb⟩; have HB2 : Hid (Below w1.heap.size w1 w2) := Lib.hid (by first | with_reducible exact HBd.out.trans (hb.mono HBd.out.size) | with_reducible exact HBa.out.trans (hb.mono HBa.out.size)); have LI2 := Lib.hid (listIn_of_holds hh2 hl HTx.out); (try (have hz : Below (w1.alloc (.cells #[.int .i64 0, .int .i64 0] 28)).drew.heap.size (w1.alloc (.cells #[.int .i64 0, .int .i64 0] 28)).drew w2 := (by with_reducible exact hb); have HZ2 := Lib.hid (HZa.out.below hz); clear hz)); clear hb hh2 hf2 hz2 hg2)
        | (go_at_call 16; refine (FN.out _).mono ?_; rintro e w3 ⟨rfl, hb⟩; have HB3 : Hid (Below w1.heap.size w1 w3) := Lib.hid (by first | with_reducible exact HB2.out.trans (hb.mono HB2.out.size) | with_reducible exact (HB2.out.alloc HB2.out.size (.cells #[.int .i64 0, .int .i64 0] 28)).trans (hb.mono (HB2.out.alloc HB2.out.size (.cells #[.int .i64 0, .int .i64 0] 28)).size)); have LI3 : Hid (ListIn w3 (some ⟨g, 0, none⟩) g 0 xs) := Lib.hid (by first | with_reducible exact LI2.out.below hb | with_reducible exact (LI2.out.below (below_alloc w2 (.cells #[.int .i64 0, .int .i64 0] 28))).below hb); (try (have hz : Below w2.heap.size w2 w3 := (by with_reducible exact hb); have HZ3 := Lib.hid (HZ2.out.below hz); clear hz)); (try (have hz : Below (w2.alloc (.cells #[.int .i64 0, .int .i64 0] 28)).heap.size (w2.alloc (.cells #[.int .i64 0, .int .i64 0] 28)) w3 := (by with_reducible exact hb); have HZ3 := Lib.hid ((two_new w2 0 0).below hz); clear hz)); clear hb)
        | (go_at_call 38; refine (HSp.out _ _ _ _ c2 (by first | with_reducible exact LI3.out | with_reducible exact LI3.out.below (below_alloc w3 (.cells #[.int .i64 0, .int .i64 0] 28)))).mono ?_; rintro e w4 ⟨rfl, hb⟩; have HB4 : Hid (Below w1.heap.size w1 w4) := Lib.hid (by first | with_reducible exact HB3.out.trans (hb.mono HB3.out.size) | with_reducible exact (HB3.out.alloc HB3.out.size (.cells #[.int .i64 0, .int .i64 0] 28)).trans (hb.mono (HB3.out.alloc HB3.out.size (.cells #[.int .i64 0, .int .i64 0] 28)).size)); (try (have hz : Below w3.heap.size w3 w4 := (by with_reducible exact hb); have HZ4 := Lib.hid (HZ3.out.below hz); clear hz)); (try (have hz : Below (w3.alloc (.cells #[.int .i64 0, .int .i64 0] 28)).heap.size (w3.alloc (.cells #[.int .i64 0, .int .i64 0] 28)) w4 := (by with_reducible exact hb); have HZ4 := Lib.hid ((two_new w3 0 0).below hz); clear hz)); (try (have z0 := HZ4.out.frozen 0; have z1 := HZ4.out.frozen 1; have z2 := HZ4.out.cell0; have z3 := HZ4.out.cell1)); clear hb)))
    all_goals (go_wp2_with fail; go_meet; first | with_reducible exact ⟨_, rfl, rfl, Lib.hid ⟨HC.out.step (HB4.out.alloc HB4.out.size _), two_new w4 R0 R2⟩⟩ | with_reducible exact ⟨_, rfl, rfl, Lib.hid ⟨HC.out.step ((HB4.out.setCell (p := ⟨w1.heap.size, 0, none⟩) (Nat.le_refl _) _).setCell (p := ⟨w1.heap.size, 1, none⟩) (Nat.le_refl _) _), (HZ4.out.set0 _).set1 _⟩⟩ | with_reducible exact ⟨_, rfl, rfl, Lib.hid ⟨HC.out.step ((HB4.out.setCell (p := ⟨w2.heap.size, 0, none⟩) HB2.out.size _).setCell (p := ⟨w2.heap.size, 1, none⟩) HB2.out.size _), (HZ4.out.set0 _).set1 _⟩⟩ | with_reducible exact ⟨_, rfl, rfl, Lib.hid ⟨HC.out.step ((HB4.out.setCell (p := ⟨w3.heap.size, 0, none⟩) HB3.out.size _).setCell (p := ⟨w3.heap.size, 1, none⟩) HB3.out.size _), (HZ4.out.set0 _).set1 _⟩⟩)
  case rest =>
  obtain ⟨g1, rfl, rfl, HX⟩ := hcut
  have hbox := HX.out.1.box
  clear HC HBd HBa HZa hno0 hno1
  -- the argument of its own
  go_wp2_with fail
  refine (FT.out _ HX.out.1.car.below).mono ?_
  rintro e w5 ⟨v, rfl, ⟨gx, cx, rfl, hcx, hgx, hzx, hhx, hfx⟩, hb⟩
  have HC5 := Lib.hid ((HX.out.1.step hb).step (below_alloc w5 (.cells #[.slice (some ⟨gx, 0, none⟩) xs.length cx] 38)))
  have LI5 := Lib.hid (listIn_of_holds (fun j x hx => keep_cell w5 (.cells #[.slice (some ⟨gx, 0, none⟩) xs.length cx] 38) ((hhx : Holds w5 gx xs) j x hx)) hl HTx.out)
  have HO5 := Lib.hid (cell_new w5 (.slice (some ⟨gx, 0, none⟩) xs.length cx) 38)
  have HT5 := Lib.hid ((HX.out.2.below hb).below (below_alloc w5 (.cells #[.slice (some ⟨gx, 0, none⟩) xs.length cx] 38)))
  clear hb hhx hfx hzx hgx hbox
  have hx5 := HO5.out
  have hno0 := HC5.out.noi.cell0
  have hno1 := HC5.out.noi.cell1
  go_upto_region 9 with fail
  generalize w5.alloc (.cells #[.slice (some ⟨gx, 0, none⟩) xs.length cx] 38) = W5 at *
  generalize w5.heap.size = X at *
  have HBd : Hid (Below W5.heap.size W5 W5.drew) := Lib.hid (Below.refl W5.heap.size W5).drew
  have HBa : Hid (Below W5.heap.size W5 (W5.alloc (.cells #[.int .i64 0, .int .i64 0] 28)).drew) := Lib.hid (below_alloc W5 (.cells #[.int .i64 0, .int .i64 0] 28)).drew
  have HZa : Hid (Two (W5.alloc (.cells #[.int .i64 0, .int .i64 0] 28)).drew W5.heap.size 0 0) := Lib.hid (two_new W5 0 0)
  have HSt : Hid (∀ W, Below W5.heap.size W5 W → W.cell? ⟨X, 0, none⟩ = some (.slice (some ⟨gx, 0, none⟩) xs.length cx) ∧ W.cell? ⟨w.heap.size + 1, 0, none⟩ = some (.int .i64 a1) ∧ W.cell? ⟨w.heap.size + 1, 1, none⟩ = some (.int .i64 d1)) := Lib.hid fun W hb => ⟨(hb.cell (World.block_lt_of_cell? _ _ HO5.out)).trans HO5.out, (HC5.out.step hb).noi.cell0, (HC5.out.step hb).noi.cell1⟩
  go_cut [11, 12] from 32 to 39 (fun s1 s2 wx => ∃ g : Nat, s1 = .pointer (some ⟨g, 0, none⟩) ∧ s2 = .bool R1 ∧ Hid (Below W5.heap.size W5 wx ∧ Two wx g R0 R2))
  case first =>
    go_region_held3 (fun w' => w'.cell? ⟨X, 0, none⟩ = some (.slice (some ⟨gx, 0, none⟩) xs.length cx) ∧ w'.cell? ⟨w.heap.size + 1, 0, none⟩ = some (.int .i64 a1) ∧ w'.cell? ⟨w.heap.size + 1, 1, none⟩ = some (.int .i64 d1))
      (first
        | with_reducible exact HSt.out _ HB4.out
        | with_reducible exact HSt.out _ (HB4.out.alloc HB4.out.size (.cells #[.int .i64 0, .int .i64 0] 28))
        | with_reducible exact HSt.out _ ((HB4.out.setCell (p := ⟨W5.heap.size, 0, none⟩) (Nat.le_refl _) _).setCell (p := ⟨W5.heap.size, 1, none⟩) (Nat.le_refl _) _)
        | with_reducible exact HSt.out _ ((HB4.out.setCell (p := ⟨w3.heap.size, 0, none⟩) HB3.out.size _).setCell (p := ⟨w3.heap.size, 1, none⟩) HB3.out.size _)
        | with_reducible exact HSt.out _ (HB4.out.alloc HB4.out.size _)
        | with_reducible exact HSt.out _ HB3.out
        | with_reducible exact HSt.out _ (HB3.out.alloc HB3.out.size (.cells #[.int .i64 0, .int .i64 0] 28))
        | with_reducible exact HSt.out _ HBd.out
        | with_reducible exact HSt.out _ HBa.out)
      ((first
        | (go_at_call 16; refine (FN.out _).mono ?_; rintro e w3 ⟨rfl, hb⟩; have HB3 : Hid (Below W5.heap.size W5 w3) := Lib.hid (by first | with_reducible exact HBd.out.trans (hb.mono HBd.out.size) | with_reducible exact HBa.out.trans (hb.mono HBa.out.size)); (try (have hz : Below (W5.alloc (.cells #[.int .i64 0, .int .i64 0] 28)).drew.heap.size (W5.alloc (.cells #[.int .i64 0, .int .i64 0] 28)).drew w3 := (by with_reducible exact hb); have HZ3 := Lib.hid (HZa.out.below hz); clear hz)); clear hb)
        | (go_at_call 39; refine (HIm.out _ _ _ _ cx (by first | with_reducible exact LI5.out.below HB3.out | with_reducible exact LI5.out.below (HB3.out.alloc HB3.out.size (.cells #[.int .i64 0, .int .i64 0] 28)))).mono ?_; rintro e w4 ⟨rfl, hb⟩; have HB4 : Hid (Below W5.heap.size W5 w4) := Lib.hid (by first | with_reducible exact HB3.out.trans (hb.mono HB3.out.size) | with_reducible exact (HB3.out.alloc HB3.out.size (.cells #[.int .i64 0, .int .i64 0] 28)).trans (hb.mono (HB3.out.alloc HB3.out.size (.cells #[.int .i64 0, .int .i64 0] 28)).size)); (try (have hz : Below w3.heap.size w3 w4 := (by with_reducible exact hb); have HZ4 := Lib.hid (HZ3.out.below hz); clear hz)); (try (have hz : Below (w3.alloc (.cells #[.int .i64 0, .int .i64 0] 28)).heap.size (w3.alloc (.cells #[.int .i64 0, .int .i64 0] 28)) w4 := (by with_reducible exact hb); have HZ4 := Lib.hid ((two_new w3 0 0).below hz); clear hz)); (try (have z0 := HZ4.out.frozen 0; have z1 := HZ4.out.frozen 1; have z2 := HZ4.out.cell0; have z3 := HZ4.out.cell1)); clear hb)))
    all_goals (go_wp2_with fail; go_meet; first | with_reducible exact ⟨_, rfl, rfl, Lib.hid ⟨HB4.out.alloc HB4.out.size _, two_new w4 R0 R2⟩⟩ | with_reducible exact ⟨_, rfl, rfl, Lib.hid ⟨(HB4.out.setCell (p := ⟨W5.heap.size, 0, none⟩) (Nat.le_refl _) _).setCell (p := ⟨W5.heap.size, 1, none⟩) (Nat.le_refl _) _, (HZ4.out.set0 _).set1 _⟩⟩ | with_reducible exact ⟨_, rfl, rfl, Lib.hid ⟨(HB4.out.setCell (p := ⟨w3.heap.size, 0, none⟩) HB3.out.size _).setCell (p := ⟨w3.heap.size, 1, none⟩) HB3.out.size _, (HZ4.out.set0 _).set1 _⟩⟩)
  case rest =>
  obtain ⟨g2, rfl, rfl, HY⟩ := hcut
  have HTa := Lib.hid (HT5.out.below HY.out.1)
  have HCa := Lib.hid (HC5.out.step HY.out.1)
  have LIa := Lib.hid (LI5.out.below HY.out.1)
  have HOa := Lib.hid (HSt.out _ HY.out.1).1
  have l1 := load_two HTa.out
  have l2 := load_two HY.out.2
  have l3 := HTa.out.cell0
  have l4 := HTa.out.cell1
  have l5 := HY.out.2.cell0
  have l6 := HY.out.2.cell1
  clear hx5 hno0 hno1 HBd HBa HZa HSt
  go_wp2_with fail
  refine (eqA2_yes R0 R2 _).mono ?_
  rintro e w8 ⟨rfl, hb⟩
  have HC7 := Lib.hid (HCa.out.step hb)
  have LI7 := Lib.hid (LIa.out.below hb)
  have hx7 := (hb.cell (World.block_lt_of_cell? _ _ HOa.out)).trans HOa.out
  clear hb l1 l2 l3 l4 l5 l6
  have hbox7 := HC7.out.box
  have F6 := Lib.hid (toT_again HC7.out.car HLi.out LI7.out.src hx7)
  have FE := Lib.hid fun (W : World) (g6 c6 : Nat) h1 h2 => eqT_yes (some ⟨gx, 0, none⟩) (some ⟨g6, 0, none⟩) gx 0 cx g6 0 c6 xs W hl h1 h2
  go_wp2_with fail
  go_region_with (first
    | (go_at_call 23; refine F6.out.mono ?_; rintro e w6 ⟨g6, c6, rfl, hx6, HX6⟩)
    | (go_at_call 25; refine (FE.out _ _ _ HX6.out.1 HX6.out.2.1).mono ?_; rintro e w7 ⟨rfl, hb7⟩; have HB7 := Lib.hid (HX6.out.2.2.step hb7).below; clear hb7))
  all_goals (
    go_wp2
    go_ret
    exact ⟨rfl, HB7.out⟩)

set_option maxRecDepth 100000 in
theorem lifted (os : Os) (started : os.Started) (H : Type) (enc : TypeId × Value → H) :
    ReturnsInHanded {} Try.checked os 10 .any (Rows.fnExactMeanWrongSpec.pre6 enc Try.prog Try.f10 Rows.fnExactMeanWrongRow.domain false) (Rows.fnExactMeanWrongSpec.post enc Try.prog Try.f10 false true false false) := by
  refine returnsInHanded_of_change (C := Try.checked) own started (by kernel_rfl) Try.func10
    (ChangeSpec.witness6 (enc := enc) (C := Try.checked) false ⟨#[], #[.agg #[.slice none 0 0], .agg #[.int .i64 0, .int .i64 0], .string ByteArray.empty], []⟩ 8 (by kernel_rfl) (by kernel_rfl) (by kernel_rfl) (by kernel_rfl)) ?_
  intro W base args ds gs before hval0 hW hcnd _
  have hval : ∀ (j : Nat) t v, Try.f10.params[j]? = some t → args[j]? = some v → Value.okWide Try.prog W .any base t v := hval0
  have hW' := hW
  obtain ⟨p, q, hA0, hV, rfl, hfz, hnd⟩ := hW
  have hA : DataW.TrodAll enc Try.prog W 0 (fun _ => true) true Try.f10.params.toList args.toList ds p := hA0
  rw [Try.params10] at hA hval
  obtain ⟨v0, vs0, d0, ds0, p0, q0, hargs, rfl, rfl, h0, r0⟩ := trodAll_cons hA
  obtain ⟨v1, vs1, d1, ds1, p1, q1, rfl, rfl, rfl, h1, r1⟩ := trodAll_cons r0
  obtain ⟨v2, vs2, d2, ds2, p2, q2, rfl, rfl, rfl, h2, r2⟩ := trodAll_cons r1
  obtain ⟨rfl, rfl, rfl⟩ := trodAll_nil r2
  obtain rfl : args = #[v0, v1, v2] := by cases args; simp_all
  obtain ⟨rfl, rfl⟩ := trodVars_none hV
  obtain ⟨cs0, rfl, _⟩ := okWide_struct Try.underlying35 (hval 0 35 v0 rfl rfl)
  have k0 := h0
  have lt0 : ∀ x ∈ p0, x.block < W.heap.size := by obtain ⟨m, hm⟩ := k0; exact DataW.trod_lt m _ _ _ hm
  obtain ⟨a0, len0, cap0, z0, rfl, w0⟩ := open_tab Try.underlying35 rfl rfl (by kernel_rfl) h0
  obtain ⟨cs1, rfl, _⟩ := okWide_struct Try.underlying23 (hval 1 23 v1 rfl rfl)
  have k1 := h1
  have lt1 : ∀ x ∈ p1, x.block < W.heap.size := by obtain ⟨m, hm⟩ := k1; exact DataW.trod_lt m _ _ _ hm
  obtain ⟨a1, n1, rfl, w1, x1⟩ := open_noi Try.underlying23 rfl rfl rfl rfl (by kernel_rfl) h1
  obtain ⟨a2, rfl, rfl, rfl, w2⟩ := open_string Try.underlying9 (hval 2 9 v2 rfl rfl) h2
  clear hA0 hval0
  refine (walk a0 len0 cap0 z0 a1 n1 a2 W w0 w1 x1 w2).mono fun e W' ⟨he, bel⟩ => ?_
  subst he
  exact ⟨_, rfl, _, _, _, [], _, [], hW', trodAll_mk1 (shut_bool Try.underlying4 _), (trodAll_cons_mk (Below.trod laidOut (by kernel_rfl) (of_decide_eq_true (by kernel_rfl)) k0 bel lt0) (trodAll_cons_mk (Below.trod laidOut (by kernel_rfl) (of_decide_eq_true (by kernel_rfl)) k1 bel lt1) (trodAll_cons_mk (shut_string Try.underlying9 w2) trodAll_mk0))), rfl, bel.frame _, fun h => by cases h⟩

theorem closed : joinedFacts Try.pinned.checked.prog 10 Try.f10 Rows.fnExactMeanWrongSpec Rows.fnExactMeanWrongRow = true :=
  (and2 (and2 (and2 (and2 (and2 (and2 (and2 (and2 (and2 (and2 (and2 (and2 (and2 (and2 (and2 (and2 (and2 (and2 (and2 (and2 (and2 (and2 (and2 (and2 (and2 (and2 (and2 (and2 (and2 (and2 (and2 (by kernel_rfl) (by kernel_rfl)) (by kernel_rfl)) (by kernel_rfl)) (by kernel_rfl)) (by kernel_rfl)) (by kernel_rfl)) (by kernel_rfl)) (by kernel_rfl)) (by kernel_rfl)) (by kernel_rfl)) (by kernel_rfl)) (by kernel_rfl)) (by kernel_rfl)) (by kernel_rfl)) (by kernel_rfl)) (by kernel_rfl)) (by kernel_rfl)) (by kernel_rfl)) (by kernel_rfl)) (by kernel_rfl)) (by kernel_rfl)) (by kernel_rfl)) (by kernel_rfl)) (by kernel_rfl)) factEnter) factLifts) factMake) (by kernel_rfl)) (by kernel_rfl)) (by kernel_rfl)) (by kernel_rfl))

theorem over : Rows.fnExactMeanWrongRow.holds Try.pinned (OpenSpec.ofChange Rows.fnExactMeanWrongSpec) :=
  OpenClaim.holds_of_wide 10 Try.f10 rfl rfl rfl rfl rfl rfl rfl ⟨rfl, rfl, rfl, rfl, rfl⟩ rfl rfl rfl rfl rfl (by kernel_rfl) Try.func10 closed
    (of_decide_eq_true (by kernel_rfl)) (by unfold Func.isWrapper; first | (rw [if_pos (by decide +kernel)]; kernel_rfl) | (rw [if_neg (by decide +kernel)]; exact ⟨rfl, rfl⟩))
    (fun os started H enc _ => lifted os started H enc)

/-- The statement. -/
theorem proved : Rows.FnExactMeanWrongSaid := over
end Go.Proofs.Ytomhjfjfmjacfaa.fnExactMeanWrong
