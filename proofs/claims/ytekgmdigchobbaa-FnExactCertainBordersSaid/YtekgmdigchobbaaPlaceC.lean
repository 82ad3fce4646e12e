/-
  placesWhere of the program, with its second test. Used by the claims on chapter 3.
-/
import Derived.Test.YtekgmdigchobbaaPlaceL
import Derived.Deep.RegionWith
namespace Go.Proofs.Ytekgmdigchobbaa
open Go.RowKit
set_option linter.unusedVariables false

set_option maxHeartbeats 8000000 in
set_option maxRecDepth 8000 in
theorem whereC_any (a : Option Addr) (b o c : Nat) (xs : List ByteArray) (s : ByteArray) (w : World) (h : ListIn w a b o xs) (hs : s.size ≤ maxLen) :
    Calls Try.prog 118 #[.agg #[.slice a xs.length c], .string s, .func (.func 121) #[] #[]] w (SeqOut (ints (placesR xs s true).1) (placesR xs s true).1.length (placesR xs s true).2 w) := by
  have hl := h.len
  have F := Lib.hid fun W hb => isTable_any a b o c xs W (h.below (w' := W) hb)
  have FB := Lib.hid fun W => isBare_any s W hs
  have HS := Lib.hid h
  have HF := Lib.hid fun (r n : Nat) (w : World) => cl_sure r n w
  clear h
  by_cases ht : tableB xs = true
  · have F2 := Lib.hid fun W hb => val_eq (v' := .bool true) (F.out W hb) (by rw [ht])
    by_cases hbr : bareT s = true
    · have h40 := bare_le hbr
      have FB2 := Lib.hid fun W => val_eq (v' := .bool true) (FB.out W) (by rw [hbr])
      have G1 := Lib.hid fun W hb => before_any a b o c xs s W (HS.out.below (w' := W) hb) ht h40
      have G2 := Lib.hid fun W hb => behind_any a b o c xs s W (HS.out.below (w' := W) hb) ht h40
      have HR : Hid (placesR xs s true = (placesL xs s true (s.size + 1), true)) := Lib.hid (if_pos (goodB_iff.2 ⟨ht, hbr⟩))
      have HT := Lib.hid ht
      obtain ⟨i0, hi, hz0, hz1, hz2⟩ := info_parts infoInt
      clear ht F FB hbr
      go_enter Try.func118, Try.ntmps118
      go_wp2_with fail
      refine (F2.out _ (below_alloc _ _)).mono ?_
      rintro e w1 ⟨rfl, hb⟩
      have hc1 : w1.cell? ⟨w.heap.size, 0, none⟩ = some (.slice a xs.length c) := (hb.cell (p := ⟨w.heap.size, 0, none⟩) (by simp)).trans (cell_new _ _ _)
      have HB := Lib.hid ((below_alloc w (.cells #[.slice a xs.length c] 26)).trans (hb.mono (by simp)))
      clear hb
      go_wp2_with fail
      refine (FB2.out _).mono ?_
      rintro e w2 ⟨rfl, hb⟩
      have hc2 := (hb.cell (World.block_lt_of_cell? _ _ hc1)).trans hc1
      have HB2 := Lib.hid (HB.out.trans (hb.mono HB.out.size))
      clear hb hc1
      go_wp2_with fail
      refine (G1.out _ HB2.out).mono ?_
      rintro e w3 ⟨g, rfl, hg, hrow, hb⟩
      have hc3 := (hb.cell (World.block_lt_of_cell? _ _ hc2)).trans hc2
      have HB3 := Lib.hid (HB2.out.trans (hb.mono HB2.out.size))
      have HV := Lib.hid hrow
      clear hb hc2 hrow
      go_wp2_with fail
      refine (G2.out _ HB3.out).mono ?_
      rintro e w4 ⟨g2, rfl, hg2, hrow2, hb⟩
      have HB4 := Lib.hid (HB3.out.trans (hb.mono HB3.out.size))
      have HV4 := Lib.hid (rowIs_below HV.out hb)
      have HU4 := Lib.hid hrow2
      clear hb hc3 hrow2
      have M0 : Hid ((w4.alloc (Obj.cells #[] 3)).ownsRow w4.heap.size 3 1 (.slice (some ⟨w4.heap.size, 0, none⟩) 0 0) 0 (ints [])) := Lib.hid (World.ownsRow_made w4 #[] 0 (Nat.le_refl _) (by unfold maxLen; omega) rfl)
      go_wp2_with fail
      go_loopw [10, 29] (fun pv v wr => ∃ k : Nat, v = .int .i64 k ∧ k ≤ s.size + 1 ∧ wr.ownsRow w4.heap.size 3 1 pv (placesL xs s true k).length (ints (placesL xs s true k)) ∧ Hid (wr.rowIs g 3 (s.size + 1) (fun j => .int .i64 (befAt xs s j))) ∧ Hid (wr.rowIs g2 3 (s.size + 1) (fun j => .int .i64 (wayAt xs s j))) ∧ Hid (Below w.heap.size w wr) ∧ Hid (w4.heap.size ≤ wr.heap.size)) (fun _ v _ => s.size + 1 - (intOf v).toNat)
      case atStart => exact ⟨0, rfl, Nat.zero_le _, M0.out, Lib.hid (rowIs_below HV4.out (below_alloc _ _)), Lib.hid (rowIs_below HU4.out (below_alloc _ _)), Lib.hid (HB4.out.alloc HB4.out.size _), Lib.hid (by simp)⟩
      case round =>
        obtain ⟨k, rfl, hk, hown, R1, R2, HB5, hszr⟩ := hrel
        have hsz4 : Hid (w4.heap.size ≤ w4.heap.size) := Lib.hid (Nat.le_refl _)
        obtain ⟨av, capv, rfl⟩ := row_form hown
        by_cases hlt : k < s.size + 1
        · have e1 := R1.out.cell (i := k) hlt
          have e2 := R2.out.cell (i := k) hlt
          have e3 := R2.out.cell (i := 0) (by omega)
          have i2 : (0 : Int) ≤ (k : Int) := by omega
          have i3 : (k : Int) < (s.size : Int) + 1 := by omega
          have i4 : (0 : Int) < (s.size : Int) + 1 := by omega
          have hmid := mid_le HT.out s h40 k
          have hb1 := befAt_le HT.out s h40 k
          have hb2 := wayAt_le HT.out s h40 k
          have HK : Hid (keepP xs s true k = (decide (0 < befAt xs s k * wayAt xs s k) && (!true || decide (befAt xs s k * wayAt xs s k = wayAt xs s 0)))) := Lib.hid rfl
          have HPl := Lib.hid (placesL_succ xs s true k)
          have hle := placesL_le xs s true k
          have hpr : ((befAt xs s k * wayAt xs s k : Nat) : Int) = (befAt xs s k : Int) * (wayAt xs s k : Int) := Int.natCast_mul _ _
          generalize befAt xs s k = y1 at e1 hmid hb1 HK hpr
          generalize wayAt xs s 0 = yn at e3 HK
          generalize wayAt xs s k = y2 at e2 hmid hb2 HK hpr
          obtain ⟨y3, hy3⟩ : ∃ y3 : Nat, y3 = y1 * y2 := ⟨_, rfl⟩
          rw [← hy3] at hmid HK hpr
          have q1 : IntKind.i64.wrap ((y1 : Int) * (y2 : Int)) = (y3 : Int) := by rw [← hpr, IntKind.wrap_i64]; omega
          have q2 : wrap64 ((y1 : Int) * (y2 : Int)) = (y3 : Int) := by rw [← hpr]; exact IntWalk.wrap64_in _ (by omega)
          have q3 : (y1 : Int) * (y2 : Int) = (y3 : Int) := hpr.symm
          have q4 : IntKind.i64.wrap (y3 : Int) = (y3 : Int) := by
            clear q1 q2 q3 hpr hy3
            rw [IntKind.wrap_i64]; omega
          have HC := Lib.hid fun w => HF.out y3 yn w
          clear hy3 hpr
          by_cases hkp : keepP xs s true k = true
          · have HC2 := Lib.hid fun w => val_eqS (v' := .bool true) (HC.out w) (by rw [← HK.out, hkp])
            have HP2 : Hid (placesL xs s true (k + 1) = placesL xs s true k ++ [k]) := Lib.hid (by rw [HPl.out, if_pos hkp])
            have HO := Lib.hid hown.drew
            have HBd := Lib.hid HB5.out.drew
            clear hkp HC
            go_wp2_with fail
            go_region_with (go_at_call 121; refine (HC2.out _).mono ?_; rintro e w5 ⟨rfl, hww⟩; have hw5 := Lib.hid hww; clear hww)
            all_goals (
              have hown5 : w5.ownsRow w4.heap.size 3 1 (.slice av (placesL xs s true k).length capv) (placesL xs s true k).length (ints (placesL xs s true k)) := by rw [hw5.out]; exact HO.out
              have HB6 : Hid (Below w.heap.size w w5) := Lib.hid (by rw [hw5.out]; exact HBd.out)
              have R3 : Hid (w5.rowIs g 3 (s.size + 1) (fun j => .int .i64 (befAt xs s j))) := Lib.hid (by rw [hw5.out]; exact R1.out)
              have R4 : Hid (w5.rowIs g2 3 (s.size + 1) (fun j => .int .i64 (wayAt xs s j))) := Lib.hid (by rw [hw5.out]; exact R2.out)
              have HSz : Hid (w.heap.size ≤ w5.heap.size) := Lib.hid HB6.out.size
              have HLt : Hid (∀ q, (Value.slice av (placesL xs s true k).length capv).ownBlock = some q → w4.heap.size ≤ q ∧ q < w5.heap.size) := Lib.hid hown5.lt
              have HG1 : Hid (g < w4.heap.size ∧ g2 < w4.heap.size) := Lib.hid ⟨HV4.out.lt, HU4.out.lt⟩
              clear e1 e2 e3 q1 q2 q3 q4 hmid hb1 hb2 hown
              generalize hpl : placesL xs s true k = pl at hown5 hle HP2 HLt
              have hH5 : Hid (w4.heap.size ≤ w5.heap.size) := Lib.hid (Nat.le_trans hsz4.out (by rw [hw5.out]; exact hszr.out))
              go_wp2_with (at_builtin; refine wpList_append_own _ rfl _ _ 56 rfl w4.heap.size 3 i0 (.int .i64 0) 1 8 Try.underlying56 hi hz0 hz1 hz2 rfl (by decide) _ _ _ rfl (hown5.alloc _) ⟨w5.heap.size, 0, none⟩ 1 1 [.int .i64 (k : Int)] rfl rfl (cell_one_new _ _ _) (by simp [Value.oneCell']) (by unfold maxLen; omega) (by omega) (by have := hH5.out; simp; omega) ?_; intro v' w7 hown' hgrow _)
              have HW7 : Hid (w7.ownsRow w4.heap.size 3 1 v' (pl ++ [k]).length (ints (pl ++ [k]))) := Lib.hid (by rw [ints_snoc]; simpa using hown')
              have R5 : Hid (w7.rowIs g 3 (s.size + 1) (fun j => .int .i64 (befAt xs s j))) := Lib.hid (rowIs_grown R3.out hgrow (fun e => by have := (HLt.out _ e).1; have := HG1.out.1; omega))
              have R6 : Hid (w7.rowIs g2 3 (s.size + 1) (fun j => .int .i64 (wayAt xs s j))) := Lib.hid (rowIs_grown R4.out hgrow (fun e => by have := (HLt.out _ e).1; have := HG1.out.2; omega))
              have HB7 : Hid (Below w.heap.size w w7) := Lib.hid ((HB6.out.alloc HB6.out.size _).grown hgrow (by have := HB6.out.size; simp; omega) (fun q e => Nat.le_trans HB4.out.size (HLt.out q e).1))
              have HS7 : Hid (w4.heap.size ≤ w7.heap.size) := Lib.hid (Nat.le_trans hH5.out (Nat.le_trans (by simp) hgrow.size))
              clear hown' hgrow
              go_roundw
              case rel => exact ⟨k + 1, by go_num, by omega, by rw [HP2.out]; exact HW7.out, R5, R6, HB7, HS7⟩
              case measure => simp [intOf]; omega)
          · have HC2 := Lib.hid fun w => val_eqS (v' := .bool false) (HC.out w) (by rw [← HK.out]; simp [hkp])
            have HP2 : Hid (placesL xs s true (k + 1) = placesL xs s true k) := Lib.hid (by rw [HPl.out, if_neg hkp, List.append_nil])
            clear hkp HC
            go_wp2_with fail
            go_region_with (go_at_call 121; refine (HC2.out _).mono ?_; rintro e w5 ⟨rfl, hww⟩; obtain rfl := hww.symm)
            all_goals (
              go_wp2
              go_roundw
              case rel => exact ⟨k + 1, by go_num, by omega, by rw [HP2.out]; exact hown, R1, R2, Lib.hid HB5.out.drew, hszr⟩
              case measure => simp [intOf]; omega)
        · obtain rfl : k = s.size + 1 := by omega
          go_wp2
          go_ret2
          obtain ⟨a', g', c', hv, hs', hg', hf'⟩ := seq_of_row hown
          rw [HR.out]
          injection hv with hv1 hv2 hv3
          subst hv1; subst hv3
          exact ⟨_, g', _, rfl, hs', fun h => Nat.le_trans HB4.out.size (hg' h), hf', HB5.out⟩
    · have FB2 := Lib.hid fun W => val_eq (v' := .bool false) (FB.out W) (by simp [hbr])
      have HR : Hid (placesR xs s true = ([], false)) := Lib.hid (if_neg (fun h => hbr (goodB_iff.1 h).2))
      clear ht F FB hbr
      go_enter Try.func118, Try.ntmps118
      go_wp2_with fail
      refine (F2.out _ (below_alloc _ _)).mono ?_
      rintro e w1 ⟨rfl, hb⟩
      have HB := Lib.hid ((below_alloc w (.cells #[.slice a xs.length c] 26)).trans (hb.mono (by simp)))
      clear hb
      go_wp2_with fail
      refine (FB2.out _).mono ?_
      rintro e w2 ⟨rfl, hb⟩
      have HB2 := Lib.hid (HB.out.trans (hb.mono HB.out.size))
      clear hb
      go_wp2
      go_ret2
      rw [HR.out]
      exact seqOut_none HB2.out
  · have F2 := Lib.hid fun W hb => val_eq (v' := .bool false) (F.out W hb) (by simp [ht])
    have HR : Hid (placesR xs s true = ([], false)) := Lib.hid (if_neg (fun h => ht (goodB_iff.1 h).1))
    clear ht F FB
    go_enter Try.func118, Try.ntmps118
    go_wp2_with fail
    refine (F2.out _ (below_alloc _ _)).mono ?_
    rintro e w1 ⟨rfl, hb⟩
    have HB := Lib.hid ((below_alloc w (.cells #[.slice a xs.length c] 26)).trans (hb.mono (by simp)))
    clear hb
    go_wp2
    go_ret2
    rw [HR.out]
    exact seqOut_none HB.out
end Go.Proofs.Ytekgmdigchobbaa
