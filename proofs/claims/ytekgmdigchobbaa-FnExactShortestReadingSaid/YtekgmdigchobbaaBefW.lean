/-
  countsBefore (the program's): for each place how many readings what is before it has. Used by the claims on chapter 3.
-/
import Derived.Test.YtekgmdigchobbaaBefL
namespace Go.Proofs.Ytekgmdigchobbaa
open Go.RowKit
set_option linter.unusedVariables false

/-- The numbers for each place, as they lie in a new block. -/
def BefOut (xs : List ByteArray) (s : ByteArray) (w : World) (e : Ending) (w' : World) : Prop := ∃ g, e = .returned (.slice (some ⟨g, 0, none⟩) (s.size + 1) (s.size + 1)) ∧ w.heap.size ≤ g ∧ w'.rowIs g 3 (s.size + 1) (fun j => .int .i64 (befAt xs s j)) ∧ Below w.heap.size w w'

set_option maxHeartbeats 1000000 in
set_option maxRecDepth 8000 in
theorem before_any (a : Option Addr) (b o c : Nat) (xs : List ByteArray) (s : ByteArray) (w : World) (h : ListIn w a b o xs) (ht : tableB xs = true) (hs : s.size ≤ 40) :
    Calls Try.prog 141 #[.agg #[.slice a xs.length c], .string s] w (BefOut xs s w) := by
  have hn : xs.length ≤ 10 := ((tableB_iff xs).1 ht).1.2
  have HS := Lib.hid h
  have HT := Lib.hid ht
  clear h ht
  have hmk := run_make_row' (P := Try.prog) 56 3 (.int .i64 0) 8 Try.underlying56 infoInt rfl .i64 .i64 (s.size + 1) (by omega) (by omega)
  rw [Int.natCast_add, Int.natCast_one] at hmk
  have HR := World.rowIs_made (w.alloc (.cells #[.slice a xs.length c] 26)) (.int .i64 0) (s.size + 1) 3
  have hG : (w.alloc (.cells #[.slice a xs.length c] 26)).heap.size = w.heap.size + 1 := by simp
  have d1 := HR.cell (i := 0) (by omega)
  have d2 := HR.frozen 0
  have HR2 := Lib.hid (HR.set 0 (.int .i64 1))
  have HB1 := Lib.hid (((below_alloc w (.cells #[.slice a xs.length c] 26)).alloc (by simp) (.cells (madeCells #[.int .i64 0] (s.size + 1)) 3)).setCell (p := ⟨w.heap.size + 1, 0, none⟩) (by simp) (.int .i64 1))
  rw [hG] at d1 d2 HR2
  have hSet := World.setCell_alloc_at (w := w.alloc (.cells #[.slice a xs.length c] 26)) (madeCells #[.int .i64 0] (s.size + 1)) 3 (w.heap.size + 1) 0 (.int .i64 1) (by simp)
  rw [hSet] at HR2 HB1
  clear HR hG
  have i0 : (0 : Int) ≤ (s.size : Int) := by omega
  go_enter Try.func141, Try.ntmps141
  go_wp2
  go_loopw [6] (fun v wr => ∃ p : Nat, 1 ≤ p ∧ p ≤ s.size + 1 ∧ v = .int .i64 (p : Int) ∧ Hid (wr.rowIs (w.heap.size + 1) 3 (s.size + 1) (fun j => .int .i64 (if j < p then befAt xs s j else 0))) ∧ wr.cell? ⟨w.heap.size, 0, none⟩ = some (.slice a xs.length c) ∧ Hid (Below w.heap.size w wr)) (fun v _ => s.size + 1 - (intOf v).toNat)
  case atStart =>
    refine ⟨1, Nat.le_refl _, by omega, rfl, Lib.hid (HR2.out.congr fun j hj => ?_), ?_, HB1⟩
    · by_cases e : j = 0
      · subst e; rw [if_pos rfl, if_pos (by omega), befAt_zero]; rfl
      · rw [if_neg e, if_neg (by omega)]
    · exact keep_cell _ _ (cell_new _ _ _)
  case round =>
    obtain ⟨q, hq1, hp, rfl, HW, hc1, HB⟩ := hrel
    by_cases hqs : s.size < q
    · obtain rfl : q = s.size + 1 := by omega
      go_wp2
      go_ret
      exact ⟨w.heap.size + 1, rfl, by omega, HW.out.congr (fun j hj => by rw [if_pos hj]), HB.out⟩
    · have hq : q ≤ s.size := by omega
      have i2 : (0 : Int) ≤ (q : Int) := by omega
      have i3 : (q : Int) ≤ (s.size : Int) := by omega
      clear hqs
      go_wp2
      go_loopw [24] (fun v2 wr2 => ∃ k : Nat, k ≤ xs.length ∧ v2 = .int .i64 k ∧ Hid (wr2.rowIs (w.heap.size + 1) 3 (s.size + 1) (fun j => .int .i64 (if j = q then befPart xs s q k else if j < q then befAt xs s j else 0))) ∧ wr2.cell? ⟨w.heap.size, 0, none⟩ = some (.slice a xs.length c) ∧ Hid (Below w.heap.size w wr2)) (fun v2 _ => xs.length - (intOf v2).toNat)
      case atStart =>
        refine ⟨0, Nat.zero_le _, rfl, Lib.hid (HW.out.congr fun j hj => ?_), hc1, HB⟩
        by_cases e : j = q
        · subst e; rw [if_pos rfl, if_neg (by omega), befPart_zero]; rfl
        · rw [if_neg e]
      case round =>
        obtain ⟨k, hk, rfl, HV, hc2, HB2⟩ := hrel
        by_cases hlt : k < xs.length
        · obtain rfl := HS.out.src.1 (by omega)
          have hcell := (HS.out.below HB2.out).src.2 k _ (List.getElem?_eq_getElem hlt)
          have HX := Lib.hid (List.getElem?_eq_getElem hlt)
          have hx1 : 1 ≤ xs[k].size ∧ xs[k].size ≤ 5 := by
            have h1 := ((tableB_iff xs).1 HT.out).2.1 _ (List.getElem_mem hlt)
            simp only [marksL, Bool.and_eq_true, decide_eq_true_eq, bl_len] at h1
            exact h1.1
          generalize xs[k] = x at hcell HX hx1
          have HSt := Lib.hid fun w => Try.strings_HasSuffix (s.extract 0 q) x w (by rw [← bl_len, bl_ext]; simp [bl_len]; omega)
          have HSu := Lib.hid (befPart_succ xs s q k x HX.out)
          have HSz := Lib.hid fun h => ends_le (s := s) (m := x) (j := q) h
          have HEx : Hid (Lib.hasSuffix (s.extract 0 q).data.toList x.data.toList = endsAt s x q) := Lib.hid (by
            show (bl x).isSuffixOf (bl (s.extract 0 q)) = _
            rw [bl_ext, List.drop_zero]; rfl)
          by_cases hst : endsAt s x q = true
          · have HSt2 := Lib.hid fun w => val_eqS (v' := .bool true) (HSt.out w) (by rw [HEx.out, hst])
            have hsz := HSz.out hst
            have d1 := HV.out.cell (i := q) (by omega)
            have d2 := HV.out.cell (i := q - x.size) (by omega)
            have d3 := HV.out.frozen q
            rw [if_pos rfl] at d1
            rw [if_neg (by omega), if_pos (by omega)] at d2
            have HP : Hid (befPart xs s q (k + 1) = befPart xs s q k + befAt xs s (q - x.size)) := Lib.hid (by rw [HSu.out, if_pos hst])
            have hb1 := befPart_le HT.out s hs q k (by omega) hq
            have hb2 := befAt_le HT.out s hs (q - x.size)
            have HV2 := Lib.hid (HV.out.set q (.int .i64 ((befPart xs s q k : Int) + (befAt xs s (q - x.size) : Int))))
            have hne : q - x.size ≠ q := by omega
            generalize befPart xs s q k = y1 at d1 HP hb1 HV2
            generalize befAt xs s (q - x.size) = y2 at d2 HP hb2 HV2
            have y0 : (q : Int) - (x.size : Int) = ((q - x.size : Nat) : Int) := by omega
            generalize q - x.size = qx at d2 y0 hne
            clear hst
            go_wp2_with fail
            refine (HSt2.out _).mono ?_
            rintro e w1 ⟨rfl, hww⟩
            obtain rfl := hww.symm
            have z0 : (0 : Int) ≤ (qx : Int) := by omega
            have z1 : (qx : Int) < (s.size : Int) + 1 := by omega
            have z2 : (q : Int) < (s.size : Int) + 1 := by omega
            have q1 : IntKind.i64.wrap ((q : Int) - (x.size : Int)) = (qx : Int) := by rw [IntKind.wrap_i64]; omega
            have q3 : wrap64 ((q : Int) - (x.size : Int)) = (qx : Int) := by rw [IntWalk.wrap64_in _ (by omega)]; omega
            go_wp2_with fail
            have hc3 : (wr.setCell ⟨w.heap.size + 1, q, none⟩ (.int .i64 ((y1 : Int) + (y2 : Int)))).cell? ⟨w.heap.size, 0, none⟩ = some (.slice (some ⟨b, o, none⟩) xs.length c) := by
              rw [World.cell?_setCell_other _ _ _ _ (by intro e; have e2 := congrArg Addr.block e; simp only at e2; omega)]
              exact hc2
            have HV3 : Hid ((wr.setCell ⟨w.heap.size + 1, q, none⟩ (.int .i64 ((y1 : Int) + (y2 : Int)))).rowIs (w.heap.size + 1) 3 (s.size + 1) (fun j => .int .i64 (if j = q then befPart xs s q (k + 1) else if j < q then befAt xs s j else 0))) := Lib.hid (HV2.out.congr fun j hj => by
              by_cases e : j = q
              · subst e; rw [if_pos rfl, if_pos rfl, HP.out]; congr 1
              · rw [if_neg e, if_neg e, if_neg e])
            have HB3 := Lib.hid (HB2.out.setCell (p := ⟨w.heap.size + 1, q, none⟩) (by simp) (.int .i64 ((y1 : Int) + (y2 : Int)))).drew
            go_region
            go_wp2
            go_roundw
            case rel => exact ⟨k + 1, by omega, rfl, HV3, hc3, HB3⟩
            case measure => simp [intOf]; omega
          · have HSt2 := Lib.hid fun w => val_eqS (v' := .bool false) (HSt.out w) (by rw [HEx.out]; simp [hst])
            have HP : Hid (befPart xs s q (k + 1) = befPart xs s q k) := Lib.hid (by rw [HSu.out, if_neg hst]; rfl)
            clear hst
            go_wp2_with fail
            refine (HSt2.out _).mono ?_
            rintro e w1 ⟨rfl, hww⟩
            obtain rfl := hww.symm
            go_wp2
            go_roundw
            case rel => exact ⟨k + 1, by omega, rfl, Lib.hid (by rw [HP.out]; exact HV.out), hc2, HB2⟩
            case measure => simp [intOf]; omega
        · obtain rfl : k = xs.length := by omega
          have HE : Hid (befPart xs s q xs.length = befAt xs s q) := Lib.hid (befPart_all HT.out s q (by omega) hq)
          go_wp2
          go_roundw
          case rel =>
            refine ⟨q + 1, by omega, by omega, by go_num, Lib.hid (HV.out.congr fun j hj => ?_), hc2, HB2⟩
            by_cases e : j = q
            · subst e; rw [if_pos rfl, if_pos (by omega), HE.out]
            · rw [if_neg e]
              by_cases e2 : j < q
              · rw [if_pos e2, if_pos (show j < q + 1 by omega)]
              · rw [if_neg e2, if_neg (show ¬ j < q + 1 by omega)]
          case measure => simp [intOf]; omega
end Go.Proofs.Ytekgmdigchobbaa
