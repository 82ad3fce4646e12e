/-
  bestCounts of the program. Used by the claims on chapter 3.
-/
import Derived.Test.YtekgmdigchobbaaBestL
namespace Go.Proofs.Ytekgmdigchobbaa
open Go.RowKit
set_option linter.unusedVariables false

/-- The best numbers for each place, as they lie in a new block. -/
def BestOut (m : Bool) (xs : List ByteArray) (s : ByteArray) (w : World) (e : Ending) (w' : World) : Prop := ∃ g, e = .returned (.slice (some ⟨g, 0, none⟩) (s.size + 1) (s.size + 1)) ∧ w.heap.size ≤ g ∧ w'.rowIs g 3 (s.size + 1) (fun j => .int .i64 (bestAt m xs s j)) ∧ Below w.heap.size w w'

set_option maxHeartbeats 1000000 in
set_option maxRecDepth 8000 in
theorem best_any (m : Bool) (F : Nat) (hE : ∀ A W, Sem.run Try.prog (callFunc F A) W = .ok (.enter F A) W)
    (hF : ∀ (u v : Int) (W : World), Calls Try.prog F (#[.int .i64 u, .int .i64 v] ++ #[]) W fun e w' => e = .returned (.bool (btr m u v)) ∧ w' = W) (a : Option Addr) (b o c : Nat) (xs : List ByteArray) (s : ByteArray) (w : World) (h : ListIn w a b o xs) (ht : tableB xs = true) (hs : s.size ≤ 40) :
    Calls Try.prog 138 #[.agg #[.slice a xs.length c], .string s, .func (.func F) #[] #[]] w (BestOut m xs s w) := by
  have hn : xs.length ≤ 10 := ((tableB_iff xs).1 ht).1.2
  have HS := Lib.hid h
  have HT := Lib.hid ht
  have HF := Lib.hid hF
  clear hF
  clear h ht
  have hmk := run_make_row' (P := Try.prog) 56 3 (.int .i64 0) 8 Try.underlying56 infoInt rfl .i64 .i64 (s.size + 1) (by omega) (by omega)
  rw [Int.natCast_add, Int.natCast_one] at hmk
  have HR := World.rowIs_made (w.alloc (.cells #[.slice a xs.length c] 26)) (.int .i64 0) (s.size + 1) 3
  have hG : (w.alloc (.cells #[.slice a xs.length c] 26)).heap.size = w.heap.size + 1 := by simp
  rw [hG] at HR
  have HR := Lib.hid HR
  have HB1 := Lib.hid ((below_alloc w (.cells #[.slice a xs.length c] 26)).alloc (by simp) (.cells (madeCells #[.int .i64 0] (s.size + 1)) 3))
  clear hG
  have i0 : (0 : Int) ≤ (s.size : Int) := by omega
  go_enter Try.func138, Try.ntmps138
  go_wp2
  go_loopw [8] (fun v wr => ∃ p : Nat, p ≤ s.size ∧ v = .int .i64 ((p : Int) - 1) ∧ Hid (wr.rowIs (w.heap.size + 1) 3 (s.size + 1) (fun j => .int .i64 (if p ≤ j then bestAt m xs s j else 0))) ∧ wr.cell? ⟨w.heap.size, 0, none⟩ = some (.slice a xs.length c) ∧ Hid (Below w.heap.size w wr)) (fun v _ => (intOf v + 1).toNat)
  case atStart =>
    refine ⟨s.size, Nat.le_refl _, rfl, Lib.hid (HR.out.congr fun j hj => ?_), keep_cell _ _ (cell_new _ _ _), HB1⟩
    by_cases e : s.size ≤ j
    · obtain rfl : j = s.size := by omega
      rw [if_pos (Nat.le_refl _), bestAt_end]
    · rw [if_neg e]
  case round =>
    obtain ⟨p, hp, rfl, HW, hc1, HB⟩ := hrel
    cases p with
    | zero =>
      have e0 : ((0 : Nat) : Int) - 1 = -1 := rfl
      rw [e0]
      go_wp2
      go_ret
      exact ⟨w.heap.size + 1, rfl, by omega, HW.out.congr (fun j _ => by simp), HB.out⟩
    | succ q =>
      have e0 : ((q + 1 : Nat) : Int) - 1 = (q : Int) := by omega
      rw [e0]
      have i2 : (0 : Int) ≤ (q : Int) := by omega
      have z2 : (q : Int) < (s.size : Int) + 1 := by omega
      have d1 := HW.out.cell (i := q) (by omega)
      have d2 := HW.out.frozen q
      have HW2 := Lib.hid (HW.out.set q (.int .i64 (-1)))
      have HB2 := Lib.hid (HB.out.setCell (p := ⟨w.heap.size + 1, q, none⟩) (by simp) (.int .i64 (-1)))
      have hc2 : (wr.setCell ⟨w.heap.size + 1, q, none⟩ (.int .i64 (-1))).cell? ⟨w.heap.size, 0, none⟩ = some (.slice a xs.length c) := by
        rw [World.cell?_setCell_other _ _ _ _ (by intro e; have e2 := congrArg Addr.block e; simp only at e2; omega)]
        exact hc1
      go_wp2
      go_loopw [29] (fun v2 wr2 => ∃ k : Nat, k ≤ xs.length ∧ v2 = .int .i64 k ∧ Hid (wr2.rowIs (w.heap.size + 1) 3 (s.size + 1) (fun j => .int .i64 (if j = q then bestPart m xs s q k else if q < j then bestAt m xs s j else 0))) ∧ wr2.cell? ⟨w.heap.size, 0, none⟩ = some (.slice a xs.length c) ∧ Hid (Below w.heap.size w wr2)) (fun v2 _ => xs.length - (intOf v2).toNat)
      case atStart =>
        refine ⟨0, Nat.zero_le _, rfl, Lib.hid (HW2.out.congr fun j hj => ?_), hc2, HB2⟩
        by_cases e : j = q
        · subst e; rw [if_pos rfl, if_pos rfl, bestPart_zero]
        · rw [if_neg e, if_neg e]
          by_cases e2 : q < j
          · rw [if_pos e2, if_pos (by omega)]
          · rw [if_neg e2, if_neg (by omega)]
      case round =>
        obtain ⟨k, hk, rfl, HV, hc3, HB3⟩ := hrel
        clear d1 d2 hc1 hc2
        by_cases hlt : k < xs.length
        · obtain rfl := HS.out.src.1 (by omega)
          have hcell := (HS.out.below HB3.out).src.2 k _ (List.getElem?_eq_getElem hlt)
          have HX := Lib.hid (List.getElem?_eq_getElem hlt)
          have hx1 := sizes_of HT.out _ (List.getElem_mem hlt)
          generalize xs[k] = x at hcell HX hx1
          have k0 : (0 : Int) ≤ (k : Int) := by omega
          have k1 : (k : Int) < (xs.length : Int) := by omega
          have HSu := Lib.hid (bestPart_succ m xs s q k x HX.out)
          have HSz := Lib.hid fun h => stands_le (s := s) (m := x) (j := q) (by omega) h
          have HSt := Lib.hid fun w => Try.strings_HasPrefix (s.extract q s.size) x w
          have HEx : Hid (Lib.hasPrefix (s.extract q s.size).data.toList x.data.toList = stands s x q) := Lib.hid (by
            show (bl x).isPrefixOf (bl (s.extract q s.size)) = _
            rw [bl_behind]; rfl)
          by_cases hst : stands s x q = true
          · have HSt2 := Lib.hid fun w => val_eqS (v' := .bool true) (HSt.out w) (by rw [HEx.out, hst])
            have hsz := HSz.out hst
            have d1 := HV.out.cell (i := q) (by omega)
            have d2 := HV.out.cell (i := q + x.size) (by omega)
            have d3 := HV.out.frozen q
            rw [if_pos rfl] at d1
            rw [if_neg (by omega), if_pos (by omega)] at d2
            have HP : Hid (bestPart m xs s q (k + 1) = bstep m (bestAt m xs s (q + x.size)) (bestPart m xs s q k)) := Lib.hid (by rw [HSu.out, if_pos hst])
            have hb1 := bestPart_in m HT.out s q k (by omega) (by omega) hs
            have hb2 := bestAt_in m HT.out s (q + x.size) hsz hs
            have hne : q + x.size ≠ q := by omega
            have z0 : (0 : Int) ≤ (q : Int) + (x.size : Int) := by omega
            have z1 : (q : Int) + (x.size : Int) < (s.size : Int) + 1 := by omega
            have HKeep : Hid (bestPart m xs s q (k + 1) = bestPart m xs s q k → (wr.rowIs (w.heap.size + 1) 3 (s.size + 1) (fun j => .int .i64 (if j = q then bestPart m xs s q (k + 1) else if q < j then bestAt m xs s j else 0)))) := Lib.hid (fun e => by rw [e]; exact HV.out)
            have HStore : Hid (bestPart m xs s q (k + 1) = bestAt m xs s (q + x.size) + 1 → ((wr.setCell ⟨w.heap.size + 1, q, none⟩ (.int .i64 (bestAt m xs s (q + x.size) + 1))).rowIs (w.heap.size + 1) 3 (s.size + 1) (fun j => .int .i64 (if j = q then bestPart m xs s q (k + 1) else if q < j then bestAt m xs s j else 0)))) := Lib.hid (fun e => (HV.out.set q (.int .i64 (bestAt m xs s (q + x.size) + 1))).congr fun j hj => by
              by_cases e2 : j = q
              · subst e2; rw [if_pos rfl, if_pos rfl, e]
              · rw [if_neg e2, if_neg e2, if_neg e2])
            have hc4 : ∀ v, (wr.setCell ⟨w.heap.size + 1, q, none⟩ v).cell? ⟨w.heap.size, 0, none⟩ = some (.slice (some ⟨b, o, none⟩) xs.length c) := fun v => by
              rw [World.cell?_setCell_other _ _ _ _ (by intro e; have e2 := congrArg Addr.block e; simp only at e2; omega)]
              exact hc3
            have HC4 := Lib.hid hc4
            have HB4 := Lib.hid fun v => HB3.out.setCell (p := ⟨w.heap.size + 1, q, none⟩) (by simp) v
            clear hc4
            generalize hy9 : bestPart m xs s q (k + 1) = y3 at HP HKeep HStore
            have HY := Lib.hid hy9
            clear hy9
            generalize bestPart m xs s q k = y1 at d1 HP hb1 HKeep
            generalize bestAt m xs s (q + x.size) = y2 at d2 HP hb2 HStore
            clear hst
            by_cases hy2 : y2 = -1
            · subst hy2
              have e3 : y3 = y1 := by rw [HP.out]; rfl
              have HN := Lib.hid (HKeep.out e3)
              clear e3
              go_wp2_with fail
              refine (HSt2.out _).mono ?_
              rintro e w1 ⟨rfl, hww⟩
              obtain rfl := hww.symm
              go_wp2
              go_roundw
              case rel => exact ⟨k + 1, by omega, by go_num, by rw [HY.out]; exact HN, hc3, HB3⟩
              case measure => simp [intOf]; omega
            · have hy0 : 0 ≤ y2 := by omega
              have hy3 : ¬ y2 < 0 := by omega
              have hy4 : (y2 == -1) = false := beq_false_of_ne hy2
              by_cases hy1 : y1 = -1
              · subst hy1
                have e3 : y3 = y2 + 1 := by rw [HP.out, bstep, if_neg hy3, if_pos (.inl (by omega))]
                have HN := Lib.hid (HStore.out e3)
                clear e3
                go_wp2_with fail
                refine (HSt2.out _).mono ?_
                rintro e w1 ⟨rfl, hww⟩
                obtain rfl := hww.symm
                go_wp2
                go_roundw
                case rel => exact ⟨k + 1, by omega, by go_num, by rw [HY.out]; exact HN, HC4.out _, Lib.hid (HB4.out _)⟩
                case measure => simp [intOf]; omega
              · have hy5 : (y1 == -1) = false := beq_false_of_ne hy1
                have hy6 : ¬ y1 < 0 := by omega
                have HG := Lib.hid (HF.out (y2 + 1) y1)
                by_cases hbt : btr m (y2 + 1) y1 = true
                · have e3 : y3 = y2 + 1 := by rw [HP.out, bstep, if_neg hy3, if_pos (.inr hbt)]
                  have HN := Lib.hid (HStore.out e3)
                  rw [hbt] at HG
                  clear hbt
                  clear e3
                  go_wp2_with fail
                  refine (HSt2.out _).mono ?_
                  rintro e w1 ⟨rfl, hww⟩
                  obtain rfl := hww.symm
                  go_wp2_with fail
                  refine (HG.out _).mono ?_
                  rintro e w1 ⟨rfl, hww⟩
                  obtain rfl := hww.symm
                  go_wp2
                  go_roundw
                  case rel => exact ⟨k + 1, by omega, by go_num, by rw [HY.out]; exact HN, HC4.out _, Lib.hid (HB4.out _)⟩
                  case measure => simp [intOf]; omega
                · have e3 : y3 = y1 := by rw [HP.out, bstep, if_neg hy3, if_neg (by rintro (h | h); exact hy6 h; exact hbt h)]
                  have HN := Lib.hid (HKeep.out e3)
                  rw [show btr m (y2 + 1) y1 = false by simpa using hbt] at HG
                  clear hbt
                  clear e3
                  go_wp2_with fail
                  refine (HSt2.out _).mono ?_
                  rintro e w1 ⟨rfl, hww⟩
                  obtain rfl := hww.symm
                  go_wp2_with fail
                  refine (HG.out _).mono ?_
                  rintro e w1 ⟨rfl, hww⟩
                  obtain rfl := hww.symm
                  go_wp2
                  go_roundw
                  case rel => exact ⟨k + 1, by omega, by go_num, by rw [HY.out]; exact HN, hc3, HB3⟩
                  case measure => simp [intOf]; omega
          · have HSt2 := Lib.hid fun w => val_eqS (v' := .bool false) (HSt.out w) (by rw [HEx.out]; simp [hst])
            have HP : Hid (bestPart m xs s q (k + 1) = bestPart m xs s q k) := Lib.hid (by rw [HSu.out, if_neg hst])
            clear hst
            go_wp2_with fail
            refine (HSt2.out _).mono ?_
            rintro e w1 ⟨rfl, hww⟩
            obtain rfl := hww.symm
            go_wp2
            go_roundw
            case rel => exact ⟨k + 1, by omega, by go_num, Lib.hid (by rw [HP.out]; exact HV.out), hc3, HB3⟩
            case measure => simp [intOf]; omega
        · obtain rfl : k = xs.length := by omega
          have HE : Hid (bestPart m xs s q xs.length = bestAt m xs s q) := Lib.hid (bestPart_all m HT.out s q (by omega))
          go_wp2
          go_roundw
          case rel =>
            refine ⟨q, by omega, rfl, Lib.hid (HV.out.congr fun j hj => ?_), hc3, HB3⟩
            by_cases e : j = q
            · subst e; rw [if_pos rfl, if_pos (Nat.le_refl _), HE.out]
            · rw [if_neg e]
              by_cases e2 : q < j
              · rw [if_pos e2, if_pos (show q ≤ j by omega)]
              · rw [if_neg e2, if_neg (show ¬ q ≤ j by omega)]
          case measure => simp [intOf]

set_option maxHeartbeats 1000000 in
set_option maxRecDepth 8000 in
theorem sBest_least (a : Option Addr) (b o c : Nat) (xs : List ByteArray) (s : ByteArray) (w : World) (h : ListIn w a b o xs) (ht : tableB xs = true) (hs : s.size ≤ 40) :
    Calls Try.prog 137 #[.agg #[.slice a xs.length c], .string s, .bool false] w (BestOut false xs s w) := by
  have hn : xs.length ≤ 10 := ((tableB_iff xs).1 ht).1.2
  have HS := Lib.hid h
  have HT := Lib.hid ht
  clear h ht
  have hmk := run_make_row' (P := Try.prog) 56 3 (.int .i64 0) 8 Try.underlying56 infoInt rfl .i64 .i64 (s.size + 1) (by omega) (by omega)
  rw [Int.natCast_add, Int.natCast_one] at hmk
  have HR := World.rowIs_made (w.alloc (.cells #[.slice a xs.length c] 26)) (.int .i64 0) (s.size + 1) 3
  have hG : (w.alloc (.cells #[.slice a xs.length c] 26)).heap.size = w.heap.size + 1 := by simp
  rw [hG] at HR
  have HR := Lib.hid HR
  have HB1 := Lib.hid ((below_alloc w (.cells #[.slice a xs.length c] 26)).alloc (by simp) (.cells (madeCells #[.int .i64 0] (s.size + 1)) 3))
  clear hG
  have i0 : (0 : Int) ≤ (s.size : Int) := by omega
  go_enter Try.func137, Try.ntmps137
  go_wp2
  go_loopw [8] (fun v wr => ∃ p : Nat, p ≤ s.size ∧ v = .int .i64 ((p : Int) - 1) ∧ Hid (wr.rowIs (w.heap.size + 1) 3 (s.size + 1) (fun j => .int .i64 (if p ≤ j then bestAt false xs s j else 0))) ∧ wr.cell? ⟨w.heap.size, 0, none⟩ = some (.slice a xs.length c) ∧ Hid (Below w.heap.size w wr)) (fun v _ => (intOf v + 1).toNat)
  case atStart =>
    refine ⟨s.size, Nat.le_refl _, rfl, Lib.hid (HR.out.congr fun j hj => ?_), keep_cell _ _ (cell_new _ _ _), HB1⟩
    by_cases e : s.size ≤ j
    · obtain rfl : j = s.size := by omega
      rw [if_pos (Nat.le_refl _), bestAt_end]
    · rw [if_neg e]
  case round =>
    obtain ⟨p, hp, rfl, HW, hc1, HB⟩ := hrel
    cases p with
    | zero =>
      have e0 : ((0 : Nat) : Int) - 1 = -1 := rfl
      rw [e0]
      go_wp2
      go_ret
      exact ⟨w.heap.size + 1, rfl, by omega, HW.out.congr (fun j _ => by simp), HB.out⟩
    | succ q =>
      have e0 : ((q + 1 : Nat) : Int) - 1 = (q : Int) := by omega
      rw [e0]
      have i2 : (0 : Int) ≤ (q : Int) := by omega
      have z2 : (q : Int) < (s.size : Int) + 1 := by omega
      have d1 := HW.out.cell (i := q) (by omega)
      have d2 := HW.out.frozen q
      have HW2 := Lib.hid (HW.out.set q (.int .i64 (-1)))
      have HB2 := Lib.hid (HB.out.setCell (p := ⟨w.heap.size + 1, q, none⟩) (by simp) (.int .i64 (-1)))
      have hc2 : (wr.setCell ⟨w.heap.size + 1, q, none⟩ (.int .i64 (-1))).cell? ⟨w.heap.size, 0, none⟩ = some (.slice a xs.length c) := by
        rw [World.cell?_setCell_other _ _ _ _ (by intro e; have e2 := congrArg Addr.block e; simp only at e2; omega)]
        exact hc1
      go_wp2
      go_loopw [9] (fun v2 wr2 => ∃ k : Nat, k ≤ xs.length ∧ v2 = .int .i64 k ∧ Hid (wr2.rowIs (w.heap.size + 1) 3 (s.size + 1) (fun j => .int .i64 (if j = q then bestPart false xs s q k else if q < j then bestAt false xs s j else 0))) ∧ wr2.cell? ⟨w.heap.size, 0, none⟩ = some (.slice a xs.length c) ∧ Hid (Below w.heap.size w wr2)) (fun v2 _ => xs.length - (intOf v2).toNat)
      case atStart =>
        refine ⟨0, Nat.zero_le _, rfl, Lib.hid (HW2.out.congr fun j hj => ?_), hc2, HB2⟩
        by_cases e : j = q
        · subst e; rw [if_pos rfl, if_pos rfl, bestPart_zero]
        · rw [if_neg e, if_neg e]
          by_cases e2 : q < j
          · rw [if_pos e2, if_pos (by omega)]
          · rw [if_neg e2, if_neg (by omega)]
      case round =>
        obtain ⟨k, hk, rfl, HV, hc3, HB3⟩ := hrel
        clear d1 d2 hc1 hc2
        by_cases hlt : k < xs.length
        · obtain rfl := HS.out.src.1 (by omega)
          have hcell := (HS.out.below HB3.out).src.2 k _ (List.getElem?_eq_getElem hlt)
          have HX := Lib.hid (List.getElem?_eq_getElem hlt)
          have hx1 := sizes_of HT.out _ (List.getElem_mem hlt)
          generalize xs[k] = x at hcell HX hx1
          have k0 : (0 : Int) ≤ (k : Int) := by omega
          have k1 : (k : Int) < (xs.length : Int) := by omega
          have HSu := Lib.hid (bestPart_succ false xs s q k x HX.out)
          have HSz := Lib.hid fun h => stands_le (s := s) (m := x) (j := q) (by omega) h
          have HSt := Lib.hid fun w => stands_any s x q w (by omega) hs hx1.2
          by_cases hst : stands s x q = true
          · have HSt2 := Lib.hid fun w => val_eqS (v' := .bool true) (HSt.out w) (by rw [hst])
            have hsz := HSz.out hst
            have d1 := HV.out.cell (i := q) (by omega)
            have d2 := HV.out.cell (i := q + x.size) (by omega)
            have d3 := HV.out.frozen q
            rw [if_pos rfl] at d1
            rw [if_neg (by omega), if_pos (by omega)] at d2
            have HP : Hid (bestPart false xs s q (k + 1) = bstep false (bestAt false xs s (q + x.size)) (bestPart false xs s q k)) := Lib.hid (by rw [HSu.out, if_pos hst])
            have hb1 := bestPart_in false HT.out s q k (by omega) (by omega) hs
            have hb2 := bestAt_in false HT.out s (q + x.size) hsz hs
            have hne : q + x.size ≠ q := by omega
            have z0 : (0 : Int) ≤ (q : Int) + (x.size : Int) := by omega
            have z1 : (q : Int) + (x.size : Int) < (s.size : Int) + 1 := by omega
            have HKeep : Hid (bestPart false xs s q (k + 1) = bestPart false xs s q k → (wr.rowIs (w.heap.size + 1) 3 (s.size + 1) (fun j => .int .i64 (if j = q then bestPart false xs s q (k + 1) else if q < j then bestAt false xs s j else 0)))) := Lib.hid (fun e => by rw [e]; exact HV.out)
            have HStore : Hid (bestPart false xs s q (k + 1) = bestAt false xs s (q + x.size) + 1 → ((wr.setCell ⟨w.heap.size + 1, q, none⟩ (.int .i64 (bestAt false xs s (q + x.size) + 1))).rowIs (w.heap.size + 1) 3 (s.size + 1) (fun j => .int .i64 (if j = q then bestPart false xs s q (k + 1) else if q < j then bestAt false xs s j else 0)))) := Lib.hid (fun e => (HV.out.set q (.int .i64 (bestAt false xs s (q + x.size) + 1))).congr fun j hj => by
              by_cases e2 : j = q
              · subst e2; rw [if_pos rfl, if_pos rfl, e]
              · rw [if_neg e2, if_neg e2, if_neg e2])
            have hc4 : ∀ v, (wr.setCell ⟨w.heap.size + 1, q, none⟩ v).cell? ⟨w.heap.size, 0, none⟩ = some (.slice (some ⟨b, o, none⟩) xs.length c) := fun v => by
              rw [World.cell?_setCell_other _ _ _ _ (by intro e; have e2 := congrArg Addr.block e; simp only at e2; omega)]
              exact hc3
            have HC4 := Lib.hid hc4
            have HB4 := Lib.hid fun v => HB3.out.setCell (p := ⟨w.heap.size + 1, q, none⟩) (by simp) v
            clear hc4
            generalize hy9 : bestPart false xs s q (k + 1) = y3 at HP HKeep HStore
            have HY := Lib.hid hy9
            clear hy9
            generalize bestPart false xs s q k = y1 at d1 HP hb1 HKeep
            generalize bestAt false xs s (q + x.size) = y2 at d2 HP hb2 HStore
            clear hst
            by_cases hy2 : y2 = -1
            · subst hy2
              have e3 : y3 = y1 := by rw [HP.out]; rfl
              have HN := Lib.hid (HKeep.out e3)
              clear e3
              go_wp2_with fail
              refine (HSt2.out _).mono ?_
              rintro e w1 ⟨rfl, hww⟩
              obtain rfl := hww.symm
              go_wp2
              go_roundw
              case rel => exact ⟨k + 1, by omega, by go_num, by rw [HY.out]; exact HN, hc3, HB3⟩
              case measure => simp [intOf]; omega
            · have hy0 : 0 ≤ y2 := by omega
              have hy3 : ¬ y2 < 0 := by omega
              have hy4 : (y2 == -1) = false := beq_false_of_ne hy2
              by_cases hy1 : y1 = -1
              · subst hy1
                have e3 : y3 = y2 + 1 := by rw [HP.out, bstep, if_neg hy3, if_pos (.inl (by omega))]
                have HN := Lib.hid (HStore.out e3)
                clear e3
                go_wp2_with fail
                refine (HSt2.out _).mono ?_
                rintro e w1 ⟨rfl, hww⟩
                obtain rfl := hww.symm
                go_wp2
                go_roundw
                case rel => exact ⟨k + 1, by omega, by go_num, by rw [HY.out]; exact HN, HC4.out _, Lib.hid (HB4.out _)⟩
                case measure => simp [intOf]; omega
              · have hy5 : (y1 == -1) = false := beq_false_of_ne hy1
                have hy6 : ¬ y1 < 0 := by omega
                by_cases hbt : btr false (y2 + 1) y1 = true
                · have e3 : y3 = y2 + 1 := by rw [HP.out, bstep, if_neg hy3, if_pos (.inr hbt)]
                  have HN := Lib.hid (HStore.out e3)
                  have hb3 : y2 + 1 < y1 := by simpa [btr] using hbt
                  clear hbt
                  clear e3
                  go_wp2_with fail
                  refine (HSt2.out _).mono ?_
                  rintro e w1 ⟨rfl, hww⟩
                  obtain rfl := hww.symm
                  go_wp2
                  go_roundw
                  case rel => exact ⟨k + 1, by omega, by go_num, by rw [HY.out]; exact HN, HC4.out _, Lib.hid (HB4.out _)⟩
                  case measure => simp [intOf]; omega
                · have e3 : y3 = y1 := by rw [HP.out, bstep, if_neg hy3, if_neg (by rintro (h | h); exact hy6 h; exact hbt h)]
                  have HN := Lib.hid (HKeep.out e3)
                  have hb3 : ¬ y2 + 1 < y1 := by simpa [btr] using hbt
                  clear hbt
                  clear e3
                  go_wp2_with fail
                  refine (HSt2.out _).mono ?_
                  rintro e w1 ⟨rfl, hww⟩
                  obtain rfl := hww.symm
                  go_wp2
                  go_roundw
                  case rel => exact ⟨k + 1, by omega, by go_num, by rw [HY.out]; exact HN, hc3, HB3⟩
                  case measure => simp [intOf]; omega
          · have HSt2 := Lib.hid fun w => val_eqS (v' := .bool false) (HSt.out w) (by simp [hst])
            have HP : Hid (bestPart false xs s q (k + 1) = bestPart false xs s q k) := Lib.hid (by rw [HSu.out, if_neg hst])
            clear hst
            go_wp2_with fail
            refine (HSt2.out _).mono ?_
            rintro e w1 ⟨rfl, hww⟩
            obtain rfl := hww.symm
            go_wp2
            go_roundw
            case rel => exact ⟨k + 1, by omega, by go_num, Lib.hid (by rw [HP.out]; exact HV.out), hc3, HB3⟩
            case measure => simp [intOf]; omega
        · obtain rfl : k = xs.length := by omega
          have HE : Hid (bestPart false xs s q xs.length = bestAt false xs s q) := Lib.hid (bestPart_all false HT.out s q (by omega))
          go_wp2
          go_roundw
          case rel =>
            refine ⟨q, by omega, rfl, Lib.hid (HV.out.congr fun j hj => ?_), hc3, HB3⟩
            by_cases e : j = q
            · subst e; rw [if_pos rfl, if_pos (Nat.le_refl _), HE.out]
            · rw [if_neg e]
              by_cases e2 : q < j
              · rw [if_pos e2, if_pos (show q ≤ j by omega)]
              · rw [if_neg e2, if_neg (show ¬ q ≤ j by omega)]
          case measure => simp [intOf]

set_option maxHeartbeats 1000000 in
set_option maxRecDepth 8000 in
theorem sBest_most (a : Option Addr) (b o c : Nat) (xs : List ByteArray) (s : ByteArray) (w : World) (h : ListIn w a b o xs) (ht : tableB xs = true) (hs : s.size ≤ 40) :
    Calls Try.prog 137 #[.agg #[.slice a xs.length c], .string s, .bool true] w (BestOut true xs s w) := by
  have hn : xs.length ≤ 10 := ((tableB_iff xs).1 ht).1.2
  have HS := Lib.hid h
  have HT := Lib.hid ht
  clear h ht
  have hmk := run_make_row' (P := Try.prog) 56 3 (.int .i64 0) 8 Try.underlying56 infoInt rfl .i64 .i64 (s.size + 1) (by omega) (by omega)
  rw [Int.natCast_add, Int.natCast_one] at hmk
  have HR := World.rowIs_made (w.alloc (.cells #[.slice a xs.length c] 26)) (.int .i64 0) (s.size + 1) 3
  have hG : (w.alloc (.cells #[.slice a xs.length c] 26)).heap.size = w.heap.size + 1 := by simp
  rw [hG] at HR
  have HR := Lib.hid HR
  have HB1 := Lib.hid ((below_alloc w (.cells #[.slice a xs.length c] 26)).alloc (by simp) (.cells (madeCells #[.int .i64 0] (s.size + 1)) 3))
  clear hG
  have i0 : (0 : Int) ≤ (s.size : Int) := by omega
  go_enter Try.func137, Try.ntmps137
  go_wp2
  go_loopw [8] (fun v wr => ∃ p : Nat, p ≤ s.size ∧ v = .int .i64 ((p : Int) - 1) ∧ Hid (wr.rowIs (w.heap.size + 1) 3 (s.size + 1) (fun j => .int .i64 (if p ≤ j then bestAt true xs s j else 0))) ∧ wr.cell? ⟨w.heap.size, 0, none⟩ = some (.slice a xs.length c) ∧ Hid (Below w.heap.size w wr)) (fun v _ => (intOf v + 1).toNat)
  case atStart =>
    refine ⟨s.size, Nat.le_refl _, rfl, Lib.hid (HR.out.congr fun j hj => ?_), keep_cell _ _ (cell_new _ _ _), HB1⟩
    by_cases e : s.size ≤ j
    · obtain rfl : j = s.size := by omega
      rw [if_pos (Nat.le_refl _), bestAt_end]
    · rw [if_neg e]
  case round =>
    obtain ⟨p, hp, rfl, HW, hc1, HB⟩ := hrel
    cases p with
    | zero =>
      have e0 : ((0 : Nat) : Int) - 1 = -1 := rfl
      rw [e0]
      go_wp2
      go_ret
      exact ⟨w.heap.size + 1, rfl, by omega, HW.out.congr (fun j _ => by simp), HB.out⟩
    | succ q =>
      have e0 : ((q + 1 : Nat) : Int) - 1 = (q : Int) := by omega
      rw [e0]
      have i2 : (0 : Int) ≤ (q : Int) := by omega
      have z2 : (q : Int) < (s.size : Int) + 1 := by omega
      have d1 := HW.out.cell (i := q) (by omega)
      have d2 := HW.out.frozen q
      have HW2 := Lib.hid (HW.out.set q (.int .i64 (-1)))
      have HB2 := Lib.hid (HB.out.setCell (p := ⟨w.heap.size + 1, q, none⟩) (by simp) (.int .i64 (-1)))
      have hc2 : (wr.setCell ⟨w.heap.size + 1, q, none⟩ (.int .i64 (-1))).cell? ⟨w.heap.size, 0, none⟩ = some (.slice a xs.length c) := by
        rw [World.cell?_setCell_other _ _ _ _ (by intro e; have e2 := congrArg Addr.block e; simp only at e2; omega)]
        exact hc1
      go_wp2
      go_loopw [9] (fun v2 wr2 => ∃ k : Nat, k ≤ xs.length ∧ v2 = .int .i64 k ∧ Hid (wr2.rowIs (w.heap.size + 1) 3 (s.size + 1) (fun j => .int .i64 (if j = q then bestPart true xs s q k else if q < j then bestAt true xs s j else 0))) ∧ wr2.cell? ⟨w.heap.size, 0, none⟩ = some (.slice a xs.length c) ∧ Hid (Below w.heap.size w wr2)) (fun v2 _ => xs.length - (intOf v2).toNat)
      case atStart =>
        refine ⟨0, Nat.zero_le _, rfl, Lib.hid (HW2.out.congr fun j hj => ?_), hc2, HB2⟩
        by_cases e : j = q
        · subst e; rw [if_pos rfl, if_pos rfl, bestPart_zero]
        · rw [if_neg e, if_neg e]
          by_cases e2 : q < j
          · rw [if_pos e2, if_pos (by omega)]
          · rw [if_neg e2, if_neg (by omega)]
      case round =>
        obtain ⟨k, hk, rfl, HV, hc3, HB3⟩ := hrel
        clear d1 d2 hc1 hc2
        by_cases hlt : k < xs.length
        · obtain rfl := HS.out.src.1 (by omega)
          have hcell := (HS.out.below HB3.out).src.2 k _ (List.getElem?_eq_getElem hlt)
          have HX := Lib.hid (List.getElem?_eq_getElem hlt)
          have hx1 := sizes_of HT.out _ (List.getElem_mem hlt)
          generalize xs[k] = x at hcell HX hx1
          have k0 : (0 : Int) ≤ (k : Int) := by omega
          have k1 : (k : Int) < (xs.length : Int) := by omega
          have HSu := Lib.hid (bestPart_succ true xs s q k x HX.out)
          have HSz := Lib.hid fun h => stands_le (s := s) (m := x) (j := q) (by omega) h
          have HSt := Lib.hid fun w => stands_any s x q w (by omega) hs hx1.2
          by_cases hst : stands s x q = true
          · have HSt2 := Lib.hid fun w => val_eqS (v' := .bool true) (HSt.out w) (by rw [hst])
            have hsz := HSz.out hst
            have d1 := HV.out.cell (i := q) (by omega)
            have d2 := HV.out.cell (i := q + x.size) (by omega)
            have d3 := HV.out.frozen q
            rw [if_pos rfl] at d1
            rw [if_neg (by omega), if_pos (by omega)] at d2
            have HP : Hid (bestPart true xs s q (k + 1) = bstep true (bestAt true xs s (q + x.size)) (bestPart true xs s q k)) := Lib.hid (by rw [HSu.out, if_pos hst])
            have hb1 := bestPart_in true HT.out s q k (by omega) (by omega) hs
            have hb2 := bestAt_in true HT.out s (q + x.size) hsz hs
            have hne : q + x.size ≠ q := by omega
            have z0 : (0 : Int) ≤ (q : Int) + (x.size : Int) := by omega
            have z1 : (q : Int) + (x.size : Int) < (s.size : Int) + 1 := by omega
            have HKeep : Hid (bestPart true xs s q (k + 1) = bestPart true xs s q k → (wr.rowIs (w.heap.size + 1) 3 (s.size + 1) (fun j => .int .i64 (if j = q then bestPart true xs s q (k + 1) else if q < j then bestAt true xs s j else 0)))) := Lib.hid (fun e => by rw [e]; exact HV.out)
            have HStore : Hid (bestPart true xs s q (k + 1) = bestAt true xs s (q + x.size) + 1 → ((wr.setCell ⟨w.heap.size + 1, q, none⟩ (.int .i64 (bestAt true xs s (q + x.size) + 1))).rowIs (w.heap.size + 1) 3 (s.size + 1) (fun j => .int .i64 (if j = q then bestPart true xs s q (k + 1) else if q < j then bestAt true xs s j else 0)))) := Lib.hid (fun e => (HV.out.set q (.int .i64 (bestAt true xs s (q + x.size) + 1))).congr fun j hj => by
              by_cases e2 : j = q
              · subst e2; rw [if_pos rfl, if_pos rfl, e]
              · rw [if_neg e2, if_neg e2, if_neg e2])
            have hc4 : ∀ v, (wr.setCell ⟨w.heap.size + 1, q, none⟩ v).cell? ⟨w.heap.size, 0, none⟩ = some (.slice (some ⟨b, o, none⟩) xs.length c) := fun v => by
              rw [World.cell?_setCell_other _ _ _ _ (by intro e; have e2 := congrArg Addr.block e; simp only at e2; omega)]
              exact hc3
            have HC4 := Lib.hid hc4
            have HB4 := Lib.hid fun v => HB3.out.setCell (p := ⟨w.heap.size + 1, q, none⟩) (by simp) v
            clear hc4
            generalize hy9 : bestPart true xs s q (k + 1) = y3 at HP HKeep HStore
            have HY := Lib.hid hy9
            clear hy9
            generalize bestPart true xs s q k = y1 at d1 HP hb1 HKeep
            generalize bestAt true xs s (q + x.size) = y2 at d2 HP hb2 HStore
            clear hst
            by_cases hy2 : y2 = -1
            · subst hy2
              have e3 : y3 = y1 := by rw [HP.out]; rfl
              have HN := Lib.hid (HKeep.out e3)
              clear e3
              go_wp2_with fail
              refine (HSt2.out _).mono ?_
              rintro e w1 ⟨rfl, hww⟩
              obtain rfl := hww.symm
              go_wp2
              go_roundw
              case rel => exact ⟨k + 1, by omega, by go_num, by rw [HY.out]; exact HN, hc3, HB3⟩
              case measure => simp [intOf]; omega
            · have hy0 : 0 ≤ y2 := by omega
              have hy3 : ¬ y2 < 0 := by omega
              have hy4 : (y2 == -1) = false := beq_false_of_ne hy2
              by_cases hy1 : y1 = -1
              · subst hy1
                have e3 : y3 = y2 + 1 := by rw [HP.out, bstep, if_neg hy3, if_pos (.inl (by omega))]
                have HN := Lib.hid (HStore.out e3)
                clear e3
                go_wp2_with fail
                refine (HSt2.out _).mono ?_
                rintro e w1 ⟨rfl, hww⟩
                obtain rfl := hww.symm
                go_wp2
                go_roundw
                case rel => exact ⟨k + 1, by omega, by go_num, by rw [HY.out]; exact HN, HC4.out _, Lib.hid (HB4.out _)⟩
                case measure => simp [intOf]; omega
              · have hy5 : (y1 == -1) = false := beq_false_of_ne hy1
                have hy6 : ¬ y1 < 0 := by omega
                by_cases hbt : btr true (y2 + 1) y1 = true
                · have e3 : y3 = y2 + 1 := by rw [HP.out, bstep, if_neg hy3, if_pos (.inr hbt)]
                  have HN := Lib.hid (HStore.out e3)
                  have hb3 : y1 < y2 + 1 := by simpa [btr] using hbt
                  clear hbt
                  clear e3
                  go_wp2_with fail
                  refine (HSt2.out _).mono ?_
                  rintro e w1 ⟨rfl, hww⟩
                  obtain rfl := hww.symm
                  go_wp2
                  go_roundw
                  case rel => exact ⟨k + 1, by omega, by go_num, by rw [HY.out]; exact HN, HC4.out _, Lib.hid (HB4.out _)⟩
                  case measure => simp [intOf]; omega
                · have e3 : y3 = y1 := by rw [HP.out, bstep, if_neg hy3, if_neg (by rintro (h | h); exact hy6 h; exact hbt h)]
                  have HN := Lib.hid (HKeep.out e3)
                  have hb3 : ¬ y1 < y2 + 1 := by simpa [btr] using hbt
                  clear hbt
                  clear e3
                  go_wp2_with fail
                  refine (HSt2.out _).mono ?_
                  rintro e w1 ⟨rfl, hww⟩
                  obtain rfl := hww.symm
                  go_wp2
                  go_roundw
                  case rel => exact ⟨k + 1, by omega, by go_num, by rw [HY.out]; exact HN, hc3, HB3⟩
                  case measure => simp [intOf]; omega
          · have HSt2 := Lib.hid fun w => val_eqS (v' := .bool false) (HSt.out w) (by simp [hst])
            have HP : Hid (bestPart true xs s q (k + 1) = bestPart true xs s q k) := Lib.hid (by rw [HSu.out, if_neg hst])
            clear hst
            go_wp2_with fail
            refine (HSt2.out _).mono ?_
            rintro e w1 ⟨rfl, hww⟩
            obtain rfl := hww.symm
            go_wp2
            go_roundw
            case rel => exact ⟨k + 1, by omega, by go_num, Lib.hid (by rw [HP.out]; exact HV.out), hc3, HB3⟩
            case measure => simp [intOf]; omega
        · obtain rfl : k = xs.length := by omega
          have HE : Hid (bestPart true xs s q xs.length = bestAt true xs s q) := Lib.hid (bestPart_all true HT.out s q (by omega))
          go_wp2
          go_roundw
          case rel =>
            refine ⟨q, by omega, rfl, Lib.hid (HV.out.congr fun j hj => ?_), hc3, HB3⟩
            by_cases e : j = q
            · subst e; rw [if_pos rfl, if_pos (Nat.le_refl _), HE.out]
            · rw [if_neg e]
              by_cases e2 : q < j
              · rw [if_pos e2, if_pos (show q ≤ j by omega)]
              · rw [if_neg e2, if_neg (show ¬ q ≤ j by omega)]
          case measure => simp [intOf]
end Go.Proofs.Ytekgmdigchobbaa
