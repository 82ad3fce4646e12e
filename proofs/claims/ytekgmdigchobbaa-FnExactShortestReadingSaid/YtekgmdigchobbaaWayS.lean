/-
  l3Stands and l3Ways (the model's), CountReadings of both: they answer alike. Used by the claims on chapter 3.
-/
import Derived.Test.YtekgmdigchobbaaWayW
namespace Go.Proofs.Ytekgmdigchobbaa
open Go.RowKit
set_option linter.unusedVariables false

set_option maxHeartbeats 1000000 in
set_option maxRecDepth 8000 in
theorem sWays_any (a : Option Addr) (b o c : Nat) (xs : List ByteArray) (s : ByteArray) (w : World) (h : ListIn w a b o xs) (ht : tableB xs = true) (hs : s.size ≤ 40) :
    Calls Try.prog 101 #[.agg #[.slice a xs.length c], .string s] w (WaysOut xs s w) := by
  have hn : xs.length ≤ 10 := ((tableB_iff xs).1 ht).1.2
  have HS := Lib.hid h
  have HT := Lib.hid ht
  clear h ht
  have hmk := run_make_row' (P := Try.prog) 56 3 (.int .i64 0) 8 Try.underlying56 infoInt rfl .i64 .i64 (s.size + 1) (by omega) (by omega)
  rw [Int.natCast_add, Int.natCast_one] at hmk
  have HR := World.rowIs_made (w.alloc (.cells #[.slice a xs.length c] 26)) (.int .i64 0) (s.size + 1) 3
  have hG : (w.alloc (.cells #[.slice a xs.length c] 26)).heap.size = w.heap.size + 1 := by simp
  have d1 := HR.cell (i := s.size) (by omega)
  have d2 := HR.frozen s.size
  have HR2 := Lib.hid (HR.set s.size (.int .i64 1))
  have HB1 := Lib.hid (((below_alloc w (.cells #[.slice a xs.length c] 26)).alloc (by simp) (.cells (madeCells #[.int .i64 0] (s.size + 1)) 3)).setCell (p := ⟨w.heap.size + 1, s.size, none⟩) (by simp) (.int .i64 1))
  rw [hG] at d1 d2 HR2
  have hSet := World.setCell_alloc_at (w := w.alloc (.cells #[.slice a xs.length c] 26)) (madeCells #[.int .i64 0] (s.size + 1)) 3 (w.heap.size + 1) s.size (.int .i64 1) (by simp)
  rw [hSet] at HR2 HB1
  clear HR hG
  have i0 : (0 : Int) ≤ (s.size : Int) := by omega
  go_enter Try.func101, Try.ntmps101
  go_wp2
  go_loopw [6] (fun v wr => ∃ p : Nat, p ≤ s.size ∧ v = .int .i64 ((p : Int) - 1) ∧ Hid (wr.rowIs (w.heap.size + 1) 3 (s.size + 1) (fun j => .int .i64 (if p ≤ j then wayAt xs s j else 0))) ∧ wr.cell? ⟨w.heap.size, 0, none⟩ = some (.slice a xs.length c) ∧ Hid (Below w.heap.size w wr)) (fun v _ => (intOf v + 1).toNat)
  case atStart =>
    refine ⟨s.size, Nat.le_refl _, rfl, Lib.hid (HR2.out.congr fun j hj => ?_), ?_, HB1⟩
    · by_cases e : j = s.size
      · subst e; rw [if_pos rfl, if_pos (Nat.le_refl _), wayAt_end]; rfl
      · rw [if_neg e, if_neg (by omega)]
    · exact keep_cell _ _ (cell_new _ _ _)
  case round =>
    obtain ⟨p, hp, rfl, HW, hc1, HB⟩ := hrel
    cases p with
    | zero =>
      have e0 : ((0 : Nat) : Int) - 1 = -1 := rfl
      rw [e0]
      go_wp2
      go_ret
      exact ⟨w.heap.size + 1, rfl, by omega, HW.out.congr (fun j _ => by simp), HB.out⟩
    | succ q =>
      have e0 : ((q + 1 : Nat) : Int) - 1 = (q : Int) := by omega
      rw [e0]
      have i2 : (0 : Int) ≤ (q : Int) := by omega
      go_wp2
      go_loopw [7] (fun v2 wr2 => ∃ k : Nat, k ≤ xs.length ∧ v2 = .int .i64 k ∧ Hid (wr2.rowIs (w.heap.size + 1) 3 (s.size + 1) (fun j => .int .i64 (if j = q then wayPart xs s q k else if q < j then wayAt xs s j else 0))) ∧ wr2.cell? ⟨w.heap.size, 0, none⟩ = some (.slice a xs.length c) ∧ Hid (Below w.heap.size w wr2)) (fun v2 _ => xs.length - (intOf v2).toNat)
      case atStart =>
        refine ⟨0, Nat.zero_le _, rfl, Lib.hid (HW.out.congr fun j hj => ?_), hc1, HB⟩
        by_cases e : j = q
        · subst e; rw [if_pos rfl, if_neg (by omega), wayPart_zero]; rfl
        · rw [if_neg e]
          by_cases e2 : q < j
          · rw [if_pos e2, if_pos (by omega)]
          · rw [if_neg e2, if_neg (by omega)]
      case round =>
        obtain ⟨k, hk, rfl, HV, hc2, HB2⟩ := hrel
        by_cases hlt : k < xs.length
        · obtain rfl := HS.out.src.1 (by omega)
          have hcell := (HS.out.below HB2.out).src.2 k _ (List.getElem?_eq_getElem hlt)
          have HX := Lib.hid (List.getElem?_eq_getElem hlt)
          have hx1 : 1 ≤ xs[k].size ∧ xs[k].size ≤ 5 := by
            have h1 := ((tableB_iff xs).1 HT.out).2.1 _ (List.getElem_mem hlt)
            simp only [marksL, Bool.and_eq_true, decide_eq_true_eq, bl_len] at h1
            exact h1.1
          generalize xs[k] = x at hcell HX hx1
          have HSt := Lib.hid fun w => stands_any s x q w (by omega) hs hx1.2
          have HSu := Lib.hid (wayPart_succ xs s q k x HX.out)
          have HSz := Lib.hid fun h => stands_le (s := s) (m := x) (j := q) (by omega) h
          by_cases hst : stands s x q = true
          · have HSt2 := Lib.hid fun w => val_eqS (v' := .bool true) (HSt.out w) (by rw [hst])
            have hsz := HSz.out hst
            have d1 := HV.out.cell (i := q) (by omega)
            have d2 := HV.out.cell (i := q + x.size) (by omega)
            have d3 := HV.out.frozen q
            rw [if_pos rfl] at d1
            rw [if_neg (by omega), if_pos (by omega)] at d2
            have HP : Hid (wayPart xs s q (k + 1) = wayPart xs s q k + wayAt xs s (q + x.size)) := Lib.hid (by rw [HSu.out, if_pos hst])
            have hb1 := wayPart_le HT.out s hs q k (by omega)
            have hb2 := wayAt_le HT.out s hs (q + x.size)
            have HV2 := Lib.hid (HV.out.set q (.int .i64 ((wayPart xs s q k : Int) + (wayAt xs s (q + x.size) : Int))))
            have hne : q + x.size ≠ q := by omega
            generalize wayPart xs s q k = y1 at d1 HP hb1 HV2
            generalize wayAt xs s (q + x.size) = y2 at d2 HP hb2 HV2
            clear hst
            go_wp2_with fail
            refine (HSt2.out _).mono ?_
            rintro e w1 ⟨rfl, hww⟩
            obtain rfl := hww.symm
            have k0 : (0 : Int) ≤ (k : Int) := by omega
            have k1 : (k : Int) < (xs.length : Int) := by omega
            have z0 : (0 : Int) ≤ (q : Int) + (x.size : Int) := by omega
            have z1 : (q : Int) + (x.size : Int) < (s.size : Int) + 1 := by omega
            have z2 : (q : Int) < (s.size : Int) + 1 := by omega
            go_wp2_with fail
            have hc3 : (wr.setCell ⟨w.heap.size + 1, q, none⟩ (.int .i64 ((y1 : Int) + (y2 : Int)))).cell? ⟨w.heap.size, 0, none⟩ = some (.slice (some ⟨b, o, none⟩) xs.length c) := by
              rw [World.cell?_setCell_other _ _ _ _ (by intro e; have e2 := congrArg Addr.block e; simp only at e2; omega)]
              exact hc2
            have HV3 : Hid ((wr.setCell ⟨w.heap.size + 1, q, none⟩ (.int .i64 ((y1 : Int) + (y2 : Int)))).rowIs (w.heap.size + 1) 3 (s.size + 1) (fun j => .int .i64 (if j = q then wayPart xs s q (k + 1) else if q < j then wayAt xs s j else 0))) := Lib.hid (HV2.out.congr fun j hj => by
              by_cases e : j = q
              · subst e; rw [if_pos rfl, if_pos rfl, HP.out]; congr 1
              · rw [if_neg e, if_neg e, if_neg e])
            have HB3 := Lib.hid (HB2.out.setCell (p := ⟨w.heap.size + 1, q, none⟩) (by simp) (.int .i64 ((y1 : Int) + (y2 : Int)))).drew
            go_region
            go_wp2
            go_roundw
            case rel => exact ⟨k + 1, by omega, by go_num, HV3, hc3, HB3⟩
            case measure => simp [intOf]; omega
          · have HSt2 := Lib.hid fun w => val_eqS (v' := .bool false) (HSt.out w) (by simp [hst])
            have HP : Hid (wayPart xs s q (k + 1) = wayPart xs s q k) := Lib.hid (by rw [HSu.out, if_neg hst]; rfl)
            clear hst
            go_wp2_with fail
            refine (HSt2.out _).mono ?_
            rintro e w1 ⟨rfl, hww⟩
            obtain rfl := hww.symm
            go_wp2
            go_roundw
            case rel => exact ⟨k + 1, by omega, by go_num, Lib.hid (by rw [HP.out]; exact HV.out), hc2, HB2⟩
            case measure => simp [intOf]; omega
        · obtain rfl : k = xs.length := by omega
          have HE : Hid (wayPart xs s q xs.length = wayAt xs s q) := Lib.hid (wayPart_all HT.out s q (by omega))
          go_wp2
          go_roundw
          case rel =>
            refine ⟨q, by omega, rfl, Lib.hid (HV.out.congr fun j hj => ?_), hc2, HB2⟩
            by_cases e : j = q
            · subst e; rw [if_pos rfl, if_pos (Nat.le_refl _), HE.out]
            · rw [if_neg e]
              by_cases e2 : q < j
              · rw [if_pos e2, if_pos (show q ≤ j by omega)]
              · rw [if_neg e2, if_neg (show ¬ q ≤ j by omega)]
          case measure => simp [intOf]

/-! ### Both are valid -/
theorem sGood_any (a : Option Addr) (b o c : Nat) (xs : List ByteArray) (s : ByteArray) (w : World) (h : ListIn w a b o xs) (hs : s.size ≤ maxLen) :
    Calls Try.prog 100 #[.agg #[.slice a xs.length c], .string s] w fun e w' => e = .returned (.bool (goodB xs s)) ∧ Below w.heap.size w w' := by
  have hl := h.len
  have F := Lib.hid fun ob => stable_any a b o c xs (w.alloc ob) (h.below (below_alloc w ob))
  have G := Lib.hid fun w => sl3bare_any s w hs
  unfold maxLen at hs
  clear h
  by_cases ht : tableB xs = true
  · have F2 := Lib.hid fun ob => val_eq (v' := .bool true) (F.out ob) (by rw [ht])
    have HR : Hid (goodB xs s = bareT s) := Lib.hid (by simp [goodB, ht])
    clear ht F
    go_enter Try.func100, Try.ntmps100
    go_wp2_with fail
    refine (F2.out _).mono ?_
    rintro e w1 ⟨rfl, hb⟩
    have HB := Lib.hid ((below_alloc w (.cells #[.slice a xs.length c] 26)).trans (hb.mono (by simp)))
    clear hb
    go_wp2_with fail
    refine (G.out _).mono ?_
    rintro e w2 ⟨rfl, hb⟩
    have HB2 := Lib.hid (HB.out.trans (hb.mono HB.out.size))
    clear hb
    go_wp2
    go_ret
    exact ⟨by rw [HR.out]; rfl, HB2.out⟩
  · have F2 := Lib.hid fun ob => val_eq (v' := .bool false) (F.out ob) (by simp [ht])
    have HR : Hid (goodB xs s = false) := Lib.hid (by simp [goodB, ht])
    clear ht F
    go_enter Try.func100, Try.ntmps100
    go_wp2_with fail
    refine (F2.out _).mono ?_
    rintro e w1 ⟨rfl, hb⟩
    have HB := Lib.hid ((below_alloc w (.cells #[.slice a xs.length c] 26)).trans (hb.mono (by simp)))
    clear hb
    go_wp2
    go_ret
    exact ⟨by rw [HR.out]; rfl, HB.out⟩
theorem goodB_iff {xs : List ByteArray} {s : ByteArray} : goodB xs s = true ↔ tableB xs = true ∧ bareT s = true := by simp [goodB]
theorem bare_le {s : ByteArray} (h : bareT s = true) : s.size ≤ 40 := by simp only [bareT, Bool.and_eq_true, decide_eq_true_eq] at h; exact h.1
def countR (xs : List ByteArray) (s : ByteArray) : Int × Bool := if goodB xs s = true then (((wayAt xs s 0 : Nat) : Int), true) else (0, false)

theorem sCount_any (a : Option Addr) (b o c : Nat) (xs : List ByteArray) (s : ByteArray) (w : World) (h : ListIn w a b o xs) (hs : s.size ≤ maxLen) :
    Calls Try.prog 44 #[.agg #[.slice a xs.length c], .string s] w fun e w' => e = .returned (.tuple #[.int .i64 (countR xs s).1, .bool (countR xs s).2]) ∧ Below w.heap.size w w' := by
  have hl := h.len
  have F := Lib.hid fun W hb => sGood_any a b o c xs s W (h.below (w' := W) hb) hs
  have HS := Lib.hid h
  clear h
  by_cases ht : goodB xs s = true
  · obtain ⟨h1, h2⟩ := goodB_iff.1 ht
    have h3 := bare_le h2
    have F2 := Lib.hid fun W hb => val_eq (v' := .bool true) (F.out W hb) (by rw [ht])
    have G := Lib.hid fun W hb => sWays_any a b o c xs s W (HS.out.below (w' := W) hb) h1 h3
    have HR : Hid (countR xs s = (((wayAt xs s 0 : Nat) : Int), true)) := Lib.hid (if_pos ht)
    clear ht F h1 h2
    go_enter Try.func44, Try.ntmps44
    go_wp2_with fail
    refine (F2.out _ (below_alloc _ _)).mono ?_
    rintro e w1 ⟨rfl, hb⟩
    have hc1 : w1.cell? ⟨w.heap.size, 0, none⟩ = some (.slice a xs.length c) := (hb.cell (p := ⟨w.heap.size, 0, none⟩) (by simp)).trans (cell_new _ _ _)
    have HB := Lib.hid ((below_alloc w (.cells #[.slice a xs.length c] 26)).trans (hb.mono (by simp)))
    clear hb
    go_wp2_with fail
    refine (G.out _ HB.out).mono ?_
    rintro e w2 ⟨g, rfl, hg, hrow, hb⟩
    have HB2 := Lib.hid (HB.out.trans (hb.mono HB.out.size))
    have hc := hrow.cell (i := 0) (by omega)
    clear hb hrow
    go_wp2
    go_ret2
    exact ⟨by rw [HR.out]; rfl, HB2.out⟩
  · have F2 := Lib.hid fun W hb => val_eq (v' := .bool false) (F.out W hb) (by simp [ht])
    have HR : Hid (countR xs s = (0, false)) := Lib.hid (if_neg ht)
    clear ht F
    go_enter Try.func44, Try.ntmps44
    go_wp2_with fail
    refine (F2.out _ (below_alloc _ _)).mono ?_
    rintro e w1 ⟨rfl, hb⟩
    have hc1 : w1.cell? ⟨w.heap.size, 0, none⟩ = some (.slice a xs.length c) := (hb.cell (p := ⟨w.heap.size, 0, none⟩) (by simp)).trans (cell_new _ _ _)
    have HB := Lib.hid ((below_alloc w (.cells #[.slice a xs.length c] 26)).trans (hb.mono (by simp)))
    clear hb
    go_wp2
    go_ret2
    exact ⟨by rw [HR.out]; rfl, HB.out⟩

theorem count_any (a : Option Addr) (b o c : Nat) (xs : List ByteArray) (s : ByteArray) (w : World) (h : ListIn w a b o xs) (hs : s.size ≤ maxLen) :
    Calls Try.prog 46 #[.agg #[.slice a xs.length c], .string s] w fun e w' => e = .returned (.tuple #[.int .i64 (countR xs s).1, .bool (countR xs s).2]) ∧ Below w.heap.size w w' := by
  have hl := h.len
  have F := Lib.hid fun W hb => isTable_any a b o c xs W (h.below (w' := W) hb)
  have FB := Lib.hid fun W => isBare_any s W hs
  have HS := Lib.hid h
  clear h
  by_cases ht : tableB xs = true
  · have F2 := Lib.hid fun W hb => val_eq (v' := .bool true) (F.out W hb) (by rw [ht])
    by_cases hbr : bareT s = true
    · have h3 := bare_le hbr
      have FB2 := Lib.hid fun W => val_eq (v' := .bool true) (FB.out W) (by rw [hbr])
      have G := Lib.hid fun W hb => behind_any a b o c xs s W (HS.out.below (w' := W) hb) ht h3
      have HR : Hid (countR xs s = (((wayAt xs s 0 : Nat) : Int), true)) := Lib.hid (if_pos (goodB_iff.2 ⟨ht, hbr⟩))
      clear ht F FB hbr
      go_enter Try.func46, Try.ntmps46
      go_wp2_with fail
      refine (F2.out _ (below_alloc _ _)).mono ?_
      rintro e w1 ⟨rfl, hb⟩
      have hc1 : w1.cell? ⟨w.heap.size, 0, none⟩ = some (.slice a xs.length c) := (hb.cell (p := ⟨w.heap.size, 0, none⟩) (by simp)).trans (cell_new _ _ _)
      have HB := Lib.hid ((below_alloc w (.cells #[.slice a xs.length c] 26)).trans (hb.mono (by simp)))
      clear hb
      go_wp2_with fail
      refine (FB2.out _).mono ?_
      rintro e w2 ⟨rfl, hb⟩
      have hc2 := (hb.cell (World.block_lt_of_cell? _ _ hc1)).trans hc1
      have HB2 := Lib.hid (HB.out.trans (hb.mono HB.out.size))
      clear hb hc1
      go_wp2_with fail
      refine (G.out _ HB2.out).mono ?_
      rintro e w3 ⟨g, rfl, hg, hrow, hb⟩
      have HB3 := Lib.hid (HB2.out.trans (hb.mono HB2.out.size))
      have hc := hrow.cell (i := 0) (by omega)
      clear hb hrow
      go_wp2
      go_ret2
      exact ⟨by rw [HR.out]; rfl, HB3.out⟩
    · have FB2 := Lib.hid fun W => val_eq (v' := .bool false) (FB.out W) (by simp [hbr])
      have HR : Hid (countR xs s = (0, false)) := Lib.hid (if_neg (fun h => hbr (goodB_iff.1 h).2))
      clear ht F FB hbr
      go_enter Try.func46, Try.ntmps46
      go_wp2_with fail
      refine (F2.out _ (below_alloc _ _)).mono ?_
      rintro e w1 ⟨rfl, hb⟩
      have hc1 : w1.cell? ⟨w.heap.size, 0, none⟩ = some (.slice a xs.length c) := (hb.cell (p := ⟨w.heap.size, 0, none⟩) (by simp)).trans (cell_new _ _ _)
      have HB := Lib.hid ((below_alloc w (.cells #[.slice a xs.length c] 26)).trans (hb.mono (by simp)))
      clear hb
      go_wp2_with fail
      refine (FB2.out _).mono ?_
      rintro e w2 ⟨rfl, hb⟩
      have HB2 := Lib.hid (HB.out.trans (hb.mono HB.out.size))
      clear hb
      go_wp2
      go_ret2
      exact ⟨by rw [HR.out]; rfl, HB2.out⟩
  · have F2 := Lib.hid fun W hb => val_eq (v' := .bool false) (F.out W hb) (by simp [ht])
    have HR : Hid (countR xs s = (0, false)) := Lib.hid (if_neg (fun h => ht (goodB_iff.1 h).1))
    clear ht F FB
    go_enter Try.func46, Try.ntmps46
    go_wp2_with fail
    refine (F2.out _ (below_alloc _ _)).mono ?_
    rintro e w1 ⟨rfl, hb⟩
    have hc1 : w1.cell? ⟨w.heap.size, 0, none⟩ = some (.slice a xs.length c) := (hb.cell (p := ⟨w.heap.size, 0, none⟩) (by simp)).trans (cell_new _ _ _)
    have HB := Lib.hid ((below_alloc w (.cells #[.slice a xs.length c] 26)).trans (hb.mono (by simp)))
    clear hb
    go_wp2
    go_ret2
    exact ⟨by rw [HR.out]; rfl, HB.out⟩

theorem countReadings_both (xs : List ByteArray) (s : ByteArray) (hl : xs.length ≤ 1048576) (ht : ∀ x ∈ xs, x.size ≤ 1048576) (hs : s.size ≤ 1048576) : ∃ (R0 : Int) (R1 : Bool),
    Hid (∀ W a b o c, ListIn W a b o xs → Calls Try.prog 44 #[.agg #[.slice a xs.length c], .string s] W fun e W' => e = .returned (.tuple #[.int .i64 R0, .bool R1]) ∧ Below W.heap.size W W') ∧
    Hid (∀ W a b o c, ListIn W a b o xs → Calls Try.prog 46 #[.agg #[.slice a xs.length c], .string s] W fun e W' => e = .returned (.tuple #[.int .i64 R0, .bool R1]) ∧ Below W.heap.size W W') :=
  ⟨_, _, fun W a b o c h => sCount_any a b o c xs s W h (by unfold maxLen; omega), fun W a b o c h => count_any a b o c xs s W h (by unfold maxLen; omega)⟩
end Go.Proofs.Ytekgmdigchobbaa
