/-
  countsBehind (the program's) and l3Ways (the model's): for each place how many readings what is behind it has. Used by the claims on chapter 3.
-/
import Derived.Test.YtekgmdigchobbaaIsTableB
import Derived.Test.YtekgmdigchobbaaBareW
import Derived.Test.YtekgmdigchobbaaPieceW
import Derived.Test.YtekgmdigchobbaaShelf
namespace Go.Proofs.Ytekgmdigchobbaa
open Go.RowKit
set_option linter.unusedVariables false

theorem infoInt : (Try.prog.info? 3).map (fun i => (i.zero, i.size, i.bytes)) = some (some (.int .i64 0), 1, 8) := by kernel_rfl
theorem bl_behind (s : ByteArray) (p : Nat) : bl (s.extract p s.size) = (bl s).drop p := by
  rw [bl_ext, List.take_of_length_le (by rw [bl_len]; exact Nat.le_refl _)]

/-- The numbers for each place, as they lie in a new block. -/
def WaysOut (xs : List ByteArray) (s : ByteArray) (w : World) (e : Ending) (w' : World) : Prop := ∃ g, e = .returned (.slice (some ⟨g, 0, none⟩) (s.size + 1) (s.size + 1)) ∧ w.heap.size ≤ g ∧ w'.rowIs g 3 (s.size + 1) (fun j => .int .i64 (wayAt xs s j)) ∧ Below w.heap.size w w'

theorem stands_take (s m : ByteArray) (p : Nat) (h : p + m.size ≤ s.size) : stands s m p = (bl (s.extract p (p + m.size)) == bl m) := by
  unfold stands
  rw [bl_ext, List.drop_take, show p + m.size - p = (bl m).length by rw [bl_len]; omega]
  rw [Bool.eq_iff_iff, List.isPrefixOf_iff_prefix, beq_iff_eq, List.prefix_iff_eq_take]
  exact eq_comm
theorem stands_far {s m : ByteArray} {p : Nat} (hp : p ≤ s.size) (h : ¬ p + m.size ≤ s.size) : stands s m p = false := by
  rw [Bool.eq_false_iff]; exact fun e => h (stands_le hp e)
theorem stands_any (s m : ByteArray) (p : Nat) (w : World) (hp : p ≤ s.size) (hs : s.size ≤ 40) (hm : m.size ≤ 5) :
    Calls Try.prog 105 #[.string s, .string m, .int .i64 p] w fun e w' => e = .returned (.bool (stands s m p)) ∧ w' = w := by
  by_cases h : p + m.size ≤ s.size
  · have HR := Lib.hid (stands_take s m p h)
    have h1 : (p : Int) + (m.size : Int) ≤ (s.size : Int) := by omega
    go_enter Try.func105, Try.ntmps105
    have heq : ((s.extract p (p + m.size)).toList == m.toList) = stands s m p := by
      rw [HR.out, ByteArray.toList_eq, ByteArray.toList_eq]; rfl
    go_wp2
    go_ret
    exact ⟨by first | rfl | rw [heq], rfl⟩
  · have HR := Lib.hid (stands_far hp h)
    have h1 : ¬ (p : Int) + (m.size : Int) ≤ (s.size : Int) := by omega
    go_enter Try.func105, Try.ntmps105
    go_wp2
    go_ret
    exact ⟨by rw [HR.out]; rfl, rfl⟩

set_option maxHeartbeats 1000000 in
set_option maxRecDepth 8000 in
theorem behind_any (a : Option Addr) (b o c : Nat) (xs : List ByteArray) (s : ByteArray) (w : World) (h : ListIn w a b o xs) (ht : tableB xs = true) (hs : s.size ≤ 40) :
    Calls Try.prog 103 #[.agg #[.slice a xs.length c], .string s] w (WaysOut xs s w) := by
  have hn : xs.length ≤ 10 := ((tableB_iff xs).1 ht).1.2
  have HS := Lib.hid h
  have HT := Lib.hid ht
  clear h ht
  have hmk := run_make_row' (P := Try.prog) 56 3 (.int .i64 0) 8 Try.underlying56 infoInt rfl .i64 .i64 (s.size + 1) (by omega) (by omega)
  rw [Int.natCast_add, Int.natCast_one] at hmk
  have HR := World.rowIs_made (w.alloc (.cells #[.slice a xs.length c] 26)) (.int .i64 0) (s.size + 1) 3
  have hG : (w.alloc (.cells #[.slice a xs.length c] 26)).heap.size = w.heap.size + 1 := by simp
  have d1 := HR.cell (i := s.size) (by omega)
  have d2 := HR.frozen s.size
  have HR2 := Lib.hid (HR.set s.size (.int .i64 1))
  have HB1 := Lib.hid (((below_alloc w (.cells #[.slice a xs.length c] 26)).alloc (by simp) (.cells (madeCells #[.int .i64 0] (s.size + 1)) 3)).setCell (p := ⟨w.heap.size + 1, s.size, none⟩) (by simp) (.int .i64 1))
  rw [hG] at d1 d2 HR2
  have hSet := World.setCell_alloc_at (w := w.alloc (.cells #[.slice a xs.length c] 26)) (madeCells #[.int .i64 0] (s.size + 1)) 3 (w.heap.size + 1) s.size (.int .i64 1) (by simp)
  rw [hSet] at HR2 HB1
  clear HR hG
  have i0 : (0 : Int) ≤ (s.size : Int) := by omega
  go_enter Try.func103, Try.ntmps103
  go_wp2
  go_loopw [6] (fun v wr => ∃ p : Nat, p ≤ s.size ∧ v = .int .i64 ((p : Int) - 1) ∧ Hid (wr.rowIs (w.heap.size + 1) 3 (s.size + 1) (fun j => .int .i64 (if p ≤ j then wayAt xs s j else 0))) ∧ wr.cell? ⟨w.heap.size, 0, none⟩ = some (.slice a xs.length c) ∧ Hid (Below w.heap.size w wr)) (fun v _ => (intOf v + 1).toNat)
  case atStart =>
    refine ⟨s.size, Nat.le_refl _, rfl, Lib.hid (HR2.out.congr fun j hj => ?_), ?_, HB1⟩
    · by_cases e : j = s.size
      · subst e; rw [if_pos rfl, if_pos (Nat.le_refl _), wayAt_end]; rfl
      · rw [if_neg e, if_neg (by omega)]
    · exact keep_cell _ _ (cell_new _ _ _)
  case round =>
    obtain ⟨p, hp, rfl, HW, hc1, HB⟩ := hrel
    cases p with
    | zero =>
      have e0 : ((0 : Nat) : Int) - 1 = -1 := rfl
      rw [e0]
      go_wp2
      go_ret
      exact ⟨w.heap.size + 1, rfl, by omega, HW.out.congr (fun j _ => by simp), HB.out⟩
    | succ q =>
      have e0 : ((q + 1 : Nat) : Int) - 1 = (q : Int) := by omega
      rw [e0]
      have i2 : (0 : Int) ≤ (q : Int) := by omega
      go_wp2
      go_loopw [27] (fun v2 wr2 => ∃ k : Nat, k ≤ xs.length ∧ v2 = .int .i64 k ∧ Hid (wr2.rowIs (w.heap.size + 1) 3 (s.size + 1) (fun j => .int .i64 (if j = q then wayPart xs s q k else if q < j then wayAt xs s j else 0))) ∧ wr2.cell? ⟨w.heap.size, 0, none⟩ = some (.slice a xs.length c) ∧ Hid (Below w.heap.size w wr2)) (fun v2 _ => xs.length - (intOf v2).toNat)
      case atStart =>
        refine ⟨0, Nat.zero_le _, rfl, Lib.hid (HW.out.congr fun j hj => ?_), hc1, HB⟩
        by_cases e : j = q
        · subst e; rw [if_pos rfl, if_neg (by omega), wayPart_zero]; rfl
        · rw [if_neg e]
          by_cases e2 : q < j
          · rw [if_pos e2, if_pos (by omega)]
          · rw [if_neg e2, if_neg (by omega)]
      case round =>
        obtain ⟨k, hk, rfl, HV, hc2, HB2⟩ := hrel
        by_cases hlt : k < xs.length
        · obtain rfl := HS.out.src.1 (by omega)
          have hcell := (HS.out.below HB2.out).src.2 k _ (List.getElem?_eq_getElem hlt)
          have HX := Lib.hid (List.getElem?_eq_getElem hlt)
          have hx1 : 1 ≤ xs[k].size ∧ xs[k].size ≤ 5 := by
            have h1 := ((tableB_iff xs).1 HT.out).2.1 _ (List.getElem_mem hlt)
            simp only [marksL, Bool.and_eq_true, decide_eq_true_eq, bl_len] at h1
            exact h1.1
          generalize xs[k] = x at hcell HX hx1
          have HSt := Lib.hid fun w => Try.strings_HasPrefix (s.extract q s.size) x w
          have HSu := Lib.hid (wayPart_succ xs s q k x HX.out)
          have HSz := Lib.hid fun h => stands_le (s := s) (m := x) (j := q) (by omega) h
          have HEx : Hid (Lib.hasPrefix (s.extract q s.size).data.toList x.data.toList = stands s x q) := Lib.hid (by
            show (bl x).isPrefixOf (bl (s.extract q s.size)) = _
            rw [bl_behind]; rfl)
          by_cases hst : stands s x q = true
          · have HSt2 := Lib.hid fun w => val_eqS (v' := .bool true) (HSt.out w) (by rw [HEx.out, hst])
            have hsz := HSz.out hst
            have d1 := HV.out.cell (i := q) (by omega)
            have d2 := HV.out.cell (i := q + x.size) (by omega)
            have d3 := HV.out.frozen q
            rw [if_pos rfl] at d1
            rw [if_neg (by omega), if_pos (by omega)] at d2
            have HP : Hid (wayPart xs s q (k + 1) = wayPart xs s q k + wayAt xs s (q + x.size)) := Lib.hid (by rw [HSu.out, if_pos hst])
            have hb1 := wayPart_le HT.out s hs q k (by omega)
            have hb2 := wayAt_le HT.out s hs (q + x.size)
            have HV2 := Lib.hid (HV.out.set q (.int .i64 ((wayPart xs s q k : Int) + (wayAt xs s (q + x.size) : Int))))
            have hne : q + x.size ≠ q := by omega
            generalize wayPart xs s q k = y1 at d1 HP hb1 HV2
            generalize wayAt xs s (q + x.size) = y2 at d2 HP hb2 HV2
            clear hst
            go_wp2_with fail
            refine (HSt2.out _).mono ?_
            rintro e w1 ⟨rfl, hww⟩
            obtain rfl := hww.symm
            have z0 : (0 : Int) ≤ (q : Int) + (x.size : Int) := by omega
            have z1 : (q : Int) + (x.size : Int) < (s.size : Int) + 1 := by omega
            have z2 : (q : Int) < (s.size : Int) + 1 := by omega
            go_wp2_with fail
            have hc3 : (wr.setCell ⟨w.heap.size + 1, q, none⟩ (.int .i64 ((y1 : Int) + (y2 : Int)))).cell? ⟨w.heap.size, 0, none⟩ = some (.slice (some ⟨b, o, none⟩) xs.length c) := by
              rw [World.cell?_setCell_other _ _ _ _ (by intro e; have e2 := congrArg Addr.block e; simp only at e2; omega)]
              exact hc2
            have HV3 : Hid ((wr.setCell ⟨w.heap.size + 1, q, none⟩ (.int .i64 ((y1 : Int) + (y2 : Int)))).rowIs (w.heap.size + 1) 3 (s.size + 1) (fun j => .int .i64 (if j = q then wayPart xs s q (k + 1) else if q < j then wayAt xs s j else 0))) := Lib.hid (HV2.out.congr fun j hj => by
              by_cases e : j = q
              · subst e; rw [if_pos rfl, if_pos rfl, HP.out]; congr 1
              · rw [if_neg e, if_neg e, if_neg e])
            have HB3 := Lib.hid (HB2.out.setCell (p := ⟨w.heap.size + 1, q, none⟩) (by simp) (.int .i64 ((y1 : Int) + (y2 : Int)))).drew
            go_region
            go_wp2
            go_roundw
            case rel => exact ⟨k + 1, by omega, rfl, HV3, hc3, HB3⟩
            case measure => simp [intOf]; omega
          · have HSt2 := Lib.hid fun w => val_eqS (v' := .bool false) (HSt.out w) (by rw [HEx.out]; simp [hst])
            have HP : Hid (wayPart xs s q (k + 1) = wayPart xs s q k) := Lib.hid (by rw [HSu.out, if_neg hst]; rfl)
            clear hst
            go_wp2_with fail
            refine (HSt2.out _).mono ?_
            rintro e w1 ⟨rfl, hww⟩
            obtain rfl := hww.symm
            go_wp2
            go_roundw
            case rel => exact ⟨k + 1, by omega, rfl, Lib.hid (by rw [HP.out]; exact HV.out), hc2, HB2⟩
            case measure => simp [intOf]; omega
        · obtain rfl : k = xs.length := by omega
          have HE : Hid (wayPart xs s q xs.length = wayAt xs s q) := Lib.hid (wayPart_all HT.out s q (by omega))
          go_wp2
          go_roundw
          case rel =>
            refine ⟨q, by omega, rfl, Lib.hid (HV.out.congr fun j hj => ?_), hc2, HB2⟩
            by_cases e : j = q
            · subst e; rw [if_pos rfl, if_pos (Nat.le_refl _), HE.out]
            · rw [if_neg e]
              by_cases e2 : q < j
              · rw [if_pos e2, if_pos (show q ≤ j by omega)]
              · rw [if_neg e2, if_neg (show ¬ q ≤ j by omega)]
          case measure => simp [intOf]
end Go.Proofs.Ytekgmdigchobbaa
