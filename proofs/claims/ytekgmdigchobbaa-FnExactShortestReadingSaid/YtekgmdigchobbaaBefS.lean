/-
  l3Borders (the model's): of how many readings each place is a border. Used by the claims on chapter 3.
-/
import Derived.Test.YtekgmdigchobbaaBefW
import Derived.Test.YtekgmdigchobbaaRankL
import Derived.Test.YtekgmdigchobbaaEncB
import Derived.Deep.RegionWith
import Derived.Deep.RegionLaw
import Derived.Deep.RegionHeldLaw
namespace Go.Proofs.Ytekgmdigchobbaa
open Go.RowKit
set_option linter.unusedVariables false

/-- Both rows, in whatever order they were made. -/
def BF (w : World) (a : Option Addr) (xs : List ByteArray) (s : ByteArray) (c g G : Nat) (W : World) : Prop := W.rowIs g 3 (s.size + 1) (fun j => .int .i64 (wayAt xs s j)) ∧ W.rowIs G 3 (s.size + 1) (fun _ => .int .i64 0) ∧ g ≠ G ∧ w.heap.size < g ∧ w.heap.size < G ∧ W.cell? ⟨w.heap.size, 0, none⟩ = some (.slice a xs.length c) ∧ Below w.heap.size w W
theorem bf_after {w W0 w2 : World} {a : Option Addr} {xs : List ByteArray} {s : ByteArray} {c g : Nat} (h0 : Below w.heap.size w W0) (hc : W0.cell? ⟨w.heap.size, 0, none⟩ = some (.slice a xs.length c)) (hl : w.heap.size < W0.heap.size)
    (hrow : w2.rowIs g 3 (s.size + 1) (fun j => .int .i64 (wayAt xs s j))) (hg : W0.drew.heap.size ≤ g) (hb : Below W0.drew.heap.size W0.drew w2) : BF w a xs s c g w2.heap.size (w2.alloc (.cells (madeCells #[.int .i64 0] (s.size + 1)) 3)) := by
  have h1 : W0.heap.size ≤ g := hg
  have h2 : W0.heap.size ≤ w2.heap.size := hb.size
  have h3 : Below w.heap.size w w2 := h0.drew.trans (hb.mono (Nat.le_of_lt hl))
  have h4 : w2.cell? ⟨w.heap.size, 0, none⟩ = some (.slice a xs.length c) := (hb.cell (p := ⟨w.heap.size, 0, none⟩) hl).trans hc
  exact ⟨rowIs_below hrow (below_alloc _ _), World.rowIs_made w2 (.int .i64 0) (s.size + 1) 3, Nat.ne_of_lt hrow.lt, by omega, by omega, keep_cell _ _ h4, h3.alloc h3.size _⟩
theorem bf_before {w W0 w2 : World} {a : Option Addr} {xs : List ByteArray} {s : ByteArray} {c g : Nat} (h0 : Below w.heap.size w W0) (hc : W0.cell? ⟨w.heap.size, 0, none⟩ = some (.slice a xs.length c)) (hl : w.heap.size < W0.heap.size)
    (hrow : w2.rowIs g 3 (s.size + 1) (fun j => .int .i64 (wayAt xs s j))) (hg : (W0.alloc (.cells (madeCells #[.int .i64 0] (s.size + 1)) 3)).drew.heap.size ≤ g) (hb : Below (W0.alloc (.cells (madeCells #[.int .i64 0] (s.size + 1)) 3)).drew.heap.size (W0.alloc (.cells (madeCells #[.int .i64 0] (s.size + 1)) 3)).drew w2) : BF w a xs s c g W0.heap.size w2 := by
  have e : (W0.alloc (.cells (madeCells #[.int .i64 0] (s.size + 1)) 3)).heap.size = W0.heap.size + 1 := by simp
  have h1 : W0.heap.size + 1 ≤ g := by rw [← e]; exact hg
  have h3 : Below w.heap.size w w2 := (h0.alloc h0.size _).drew.trans (hb.mono (by show _ ≤ (W0.alloc _).heap.size; rw [e]; omega))
  have h4 : w2.cell? ⟨w.heap.size, 0, none⟩ = some (.slice a xs.length c) := (hb.cell (p := ⟨w.heap.size, 0, none⟩) (show w.heap.size < (W0.alloc (.cells (madeCells #[.int .i64 0] (s.size + 1)) 3)).heap.size by rw [e]; omega)).trans (keep_cell _ _ hc)
  have h5 := rowIs_below (w := (W0.alloc (.cells (madeCells #[.int .i64 0] (s.size + 1)) 3)).drew) (World.rowIs_made W0 (.int .i64 0) (s.size + 1) 3) hb
  exact ⟨hrow, h5, by omega, by omega, hl, h4, h3⟩

set_option maxHeartbeats 16000000 in
set_option maxRecDepth 8000 in
theorem sBorders_any (a : Option Addr) (b o c : Nat) (xs : List ByteArray) (s : ByteArray) (w : World) (h : ListIn w a b o xs) (ht : tableB xs = true) (hs : s.size ≤ 40) :
    Calls Try.prog 140 #[.agg #[.slice a xs.length c], .string s] w fun e w' => (∃ g, e = .returned (.tuple #[.slice (some ⟨g, 0, none⟩) (s.size + 1) (s.size + 1), .int .i64 (wayAt xs s 0)]) ∧ w.heap.size ≤ g ∧ w'.rowIs g 3 (s.size + 1) (fun j => .int .i64 ((befAt xs s j * wayAt xs s j : Nat) : Int))) ∧ Below w.heap.size w w' := by
  have hn : xs.length ≤ 10 := ((tableB_iff xs).1 ht).1.2
  have HS := Lib.hid h
  have HT := Lib.hid ht
  have G := Lib.hid fun W hb => sWays_any a b o c xs s W (h.below (w' := W) hb) ht hs
  clear h ht
  have hmk := run_make_row' (P := Try.prog) 56 3 (.int .i64 0) 8 Try.underlying56 infoInt rfl .i64 .i64 (s.size + 1) (by omega) (by omega)
  rw [Int.natCast_add, Int.natCast_one] at hmk
  have hwr : IntKind.i64.wrap ((s.size : Int) + 1) = (s.size : Int) + 1 := by rw [IntKind.wrap_i64]; omega
  have hb0 := below_alloc w (.cells #[.slice a xs.length c] 26)
  have hc0 := cell_new w (.slice a xs.length c) 26
  go_enter Try.func140, Try.ntmps140
  go_wp2_with fail
  generalize (w.alloc (.cells #[.slice a xs.length c] 26)) = W0 at hb0 hc0 ⊢
  have HB0 := Lib.hid hb0
  have HC0 := Lib.hid hc0
  have HL0 := Lib.hid (World.block_lt_of_cell? _ _ hc0)
  have hc0' := keep_cell W0 (.cells (madeCells #[.int .i64 0] (s.size + 1)) 3) hc0
  clear hb0
  go_region_law
    ((go_simp; go_at_call 101; refine (G.out _ (by first | exact HB0.out.drew | exact (HB0.out.alloc HB0.out.size _).drew | exact HB0.out.alloc HB0.out.size _ | exact HB0.out)).mono ?_; rintro e w2 ⟨g, rfl, hg, hrow, hb⟩))
  all_goals
    first
    | (have hF : BF w a xs s c g w2.heap.size (w2.alloc (.cells (madeCells #[.int .i64 0] (s.size + 1)) 3)) := bf_after HB0.out hc0 HL0.out hrow hg hb
       obtain ⟨W, hW⟩ : ∃ W, W = w2.alloc (.cells (madeCells #[.int .i64 0] (s.size + 1)) 3) := ⟨_, rfl⟩
       obtain ⟨G1, hG1⟩ : ∃ G1, G1 = w2.heap.size := ⟨_, rfl⟩
       rw [← hW, ← hG1] at hF
       rw [← hW, ← hG1])
    | (have hF : BF w a xs s c g W0.heap.size w2 := bf_before HB0.out hc0 HL0.out hrow hg hb
       obtain ⟨W, hW⟩ : ∃ W, W = w2 := ⟨_, rfl⟩
       obtain ⟨G1, hG1⟩ : ∃ G1, G1 = W0.heap.size := ⟨_, rfl⟩
       rw [← hW, ← hG1] at hF
       rw [← hW, ← hG1])
    obtain ⟨f1, f2, f3, f4, f5, f6, f7⟩ := hF
    have R1 := Lib.hid f1
    have R2 := Lib.hid f2
    have N1 := Lib.hid (And.intro f3 (And.intro f4 f5))
    have hB7 := Lib.hid f7
    have d1 := f2.cell (i := 0) (by omega)
    have d2 := f2.frozen 0
    have hc3 : (W.setCell ⟨G1, 0, none⟩ (.int .i64 1)).cell? ⟨w.heap.size, 0, none⟩ = some (.slice a xs.length c) := by
      rw [World.cell?_setCell_other _ _ _ _ (by intro e; have e2 := congrArg Addr.block e; simp only at e2; omega)]
      exact f6
    have R1' : Hid ((W.setCell ⟨G1, 0, none⟩ (.int .i64 1)).rowIs g 3 (s.size + 1) (fun j => .int .i64 (wayAt xs s j))) := Lib.hid (f1.setOther (by simp; omega) _)
    have R2' : Hid ((W.setCell ⟨G1, 0, none⟩ (.int .i64 1)).rowIs G1 3 (s.size + 1) (fun j => .int .i64 (pushAt xs s 0 0 j))) := Lib.hid ((f2.set 0 (.int .i64 1)).congr fun j hj => by
      rw [pushAt_start]
      by_cases e : j = 0
      · rw [if_pos e, if_pos e]; rfl
      · rw [if_neg e, if_neg e]; rfl)
    have hB8 := Lib.hid (f7.setCell (p := ⟨G1, 0, none⟩) (Nat.le_of_lt f5) (.int .i64 1))
    have l0 : (0 : Int) ≤ (s.size : Int) := by omega
    clear hW hG1 hrow hg hb f1 f2 f3 f4 f5 f6 f7 hc0 hc0' R1 R2
    go_wp2
    go_loopw [8] (fun v wr => ∃ A : Nat, v = .int .i64 A ∧ A ≤ s.size ∧ wr.cell? ⟨w.heap.size, 0, none⟩ = some (.slice a xs.length c) ∧ Hid (wr.rowIs g 3 (s.size + 1) (fun j => .int .i64 (wayAt xs s j))) ∧ Hid (wr.rowIs G1 3 (s.size + 1) (fun j => .int .i64 (pushAt xs s A 0 j))) ∧ Hid (Below w.heap.size w wr)) (fun v _ => s.size - (intOf v).toNat)
    case atStart => exact ⟨0, rfl, Nat.zero_le _, hc3, R1', R2', hB8⟩
    case round =>
      obtain ⟨A, rfl, hA, hc4, S1, S2, HB4⟩ := hrel
      clear d1 d2 hc3 R1' R2' hB8 hB7
      by_cases hlt : A < s.size
      · have i2 : (0 : Int) ≤ (A : Int) := by omega
        have i3 : (A : Int) < (s.size : Int) := by omega
        have i4 : (A : Int) < (s.size : Int) + 1 := by omega
        go_wp2
        go_loopw [9] (fun v2 wr2 => ∃ k : Nat, v2 = .int .i64 k ∧ k ≤ xs.length ∧ wr2.cell? ⟨w.heap.size, 0, none⟩ = some (.slice a xs.length c) ∧ Hid (wr2.rowIs g 3 (s.size + 1) (fun j => .int .i64 (wayAt xs s j))) ∧ Hid (wr2.rowIs G1 3 (s.size + 1) (fun j => .int .i64 (pushAt xs s A k j))) ∧ Hid (Below w.heap.size w wr2)) (fun v2 _ => xs.length - (intOf v2).toNat)
        case atStart => exact ⟨0, rfl, Nat.zero_le _, hc4, S1, S2, HB4⟩
        case round =>
          obtain ⟨k, rfl, hk, hc5, T1, T2, HB5⟩ := hrel
          by_cases hkl : k < xs.length
          · obtain rfl := HS.out.src.1 (by omega)
            have hcell := (HS.out.below HB5.out).src.2 k _ (List.getElem?_eq_getElem hkl)
            have HX := Lib.hid (List.getElem?_eq_getElem hkl)
            have hx1 : 1 ≤ xs[k].size ∧ xs[k].size ≤ 5 := by
              have h1 := ((tableB_iff xs).1 HT.out).2.1 _ (List.getElem_mem hkl)
              simp only [marksL, Bool.and_eq_true, decide_eq_true_eq, bl_len] at h1
              exact h1.1
            generalize xs[k] = x at hcell HX hx1
            have HSt := Lib.hid fun w => stands_any s x A w (by omega) hs hx1.2
            have HSu : Hid (∀ j, j ≤ s.size → pushAt xs s A (k + 1) j = pushAt xs s A k j + (if j = A + x.size ∧ stands s x A = true then befAt xs s A else 0)) := fun j hj => pushAt_succ HT.out s A k j x HX.out (by omega) hj
            have k0 : (0 : Int) ≤ (k : Int) := by omega
            have k1 : (k : Int) < (xs.length : Int) := by omega
            by_cases hst : stands s x A = true
            · have HSt2 := Lib.hid fun w => val_eqS (v' := .bool true) (HSt.out w) (by rw [hst])
              have hsz := stands_le (s := s) (m := x) (j := A) (by omega) hst
              have e1 := T2.out.cell (i := A) (by omega)
              have e2 := T2.out.cell (i := A + x.size) (by omega)
              have e3 := T2.out.frozen (A + x.size)
              rw [pushAt_done HT.out s A k A (Nat.le_refl _) (by omega)] at e1
              have hb1 := befAt_le HT.out s hs A
              have hb2 := pushAt_le HT.out s hs A k (A + x.size) (by omega)
              have T3 : Hid ((wr.setCell ⟨G1, A + x.size, none⟩ (.int .i64 ((pushAt xs s A k (A + x.size) : Int) + (befAt xs s A : Int)))).rowIs G1 3 (s.size + 1) (fun j => .int .i64 (pushAt xs s A (k + 1) j))) := Lib.hid ((T2.out.set (A + x.size) _).congr fun j hj => by
                rw [HSu.out j (by omega)]
                by_cases e : j = A + x.size
                · subst e; rw [if_pos rfl, if_pos ⟨rfl, hst⟩]; rfl
                · rw [if_neg e, if_neg (fun hh => e hh.1), Nat.add_zero])
              have T4 := Lib.hid (T1.out.setOther (a := ⟨G1, A + x.size, none⟩) (fun e => N1.out.1 e) (.int .i64 ((pushAt xs s A k (A + x.size) : Int) + (befAt xs s A : Int))))
              have hc6 : (wr.setCell ⟨G1, A + x.size, none⟩ (.int .i64 ((pushAt xs s A k (A + x.size) : Int) + (befAt xs s A : Int)))).cell? ⟨w.heap.size, 0, none⟩ = some (.slice (some ⟨b, o, none⟩) xs.length c) := by
                rw [World.cell?_setCell_other _ _ _ _ (by intro e; have e2 := congrArg Addr.block e; simp only at e2; have := N1.out.2.2; omega)]
                exact hc5
              have HB6 := Lib.hid (HB5.out.setCell (p := ⟨G1, A + x.size, none⟩) (Nat.le_of_lt N1.out.2.2) (.int .i64 ((pushAt xs s A k (A + x.size) : Int) + (befAt xs s A : Int)))).drew
              generalize pushAt xs s A k (A + x.size) = y1 at e2 hb2 T3 T4 hc6 HB6
              generalize befAt xs s A = y2 at e1 hb1 T3 T4 hc6 HB6
              have z0 : (0 : Int) ≤ (A : Int) + (x.size : Int) := by omega
              have z1 : (A : Int) + (x.size : Int) < (s.size : Int) + 1 := by omega
              clear hst
              go_wp2_with fail
              refine (HSt2.out _).mono ?_
              rintro e w6 ⟨rfl, hww⟩
              obtain rfl := hww.symm
              go_wp2_with fail
              go_region
              go_wp2
              go_roundw
              case rel => exact ⟨k + 1, by go_num, by omega, hc6, T4, T3, HB6⟩
              case measure => simp [intOf]; omega
            · have HSt2 := Lib.hid fun w => val_eqS (v' := .bool false) (HSt.out w) (by simp [hst])
              have T3 : Hid (wr.rowIs G1 3 (s.size + 1) (fun j => .int .i64 (pushAt xs s A (k + 1) j))) := Lib.hid (T2.out.congr fun j hj => by
                rw [HSu.out j (by omega), if_neg (fun hh => hst hh.2), Nat.add_zero])
              clear hst
              go_wp2_with fail
              refine (HSt2.out _).mono ?_
              rintro e w6 ⟨rfl, hww⟩
              obtain rfl := hww.symm
              go_wp2
              go_roundw
              case rel => exact ⟨k + 1, by go_num, by omega, hc5, T1, T3, HB5⟩
              case measure => simp [intOf]; omega
          · obtain rfl : k = xs.length := by omega
            go_wp2
            go_roundw
            case rel => exact ⟨A + 1, by go_num, by omega, hc5, T1, Lib.hid (T2.out.congr fun j _ => by rw [pushAt_all]), HB5⟩
            case measure => simp [intOf]; omega
      · obtain rfl : A = s.size := by omega
        have S3 : Hid (wr.rowIs G1 3 (s.size + 1) (fun j => .int .i64 ((if j < 0 then befAt xs s j * wayAt xs s j else befAt xs s j : Nat) : Int))) := Lib.hid (S2.out.congr fun j hj => by
          rw [pushAt_done HT.out s s.size 0 j (by omega) (by omega), if_neg (by omega)])
        clear S2
        go_wp2
        go_loopw [10] (fun v wr3 => ∃ p : Nat, v = .int .i64 p ∧ p ≤ s.size + 1 ∧ Hid (wr3.rowIs g 3 (s.size + 1) (fun j => .int .i64 (wayAt xs s j))) ∧ Hid (wr3.rowIs G1 3 (s.size + 1) (fun j => .int .i64 ((if j < p then befAt xs s j * wayAt xs s j else befAt xs s j : Nat) : Int))) ∧ Hid (Below w.heap.size w wr3)) (fun v _ => s.size + 1 - (intOf v).toNat)
        case atStart => exact ⟨0, rfl, Nat.zero_le _, S1, S3, HB4⟩
        case round =>
          obtain ⟨p, rfl, hp, T1, T2, HB5⟩ := hrel
          by_cases hps : p ≤ s.size
          · have e1 := T1.out.cell (i := p) (by omega)
            have e2 := T2.out.cell (i := p) (by omega)
            have e3 := T2.out.frozen p
            rw [if_neg (Nat.lt_irrefl p)] at e2
            have hb1 := mid_le HT.out s hs p
            have hb2 := wayAt_le HT.out s hs p
            have hb3 := befAt_le HT.out s hs p
            have T3 : Hid ((wr.setCell ⟨G1, p, none⟩ (.int .i64 ((befAt xs s p : Int) * (wayAt xs s p : Int)))).rowIs G1 3 (s.size + 1) (fun j => .int .i64 ((if j < p + 1 then befAt xs s j * wayAt xs s j else befAt xs s j : Nat) : Int))) := Lib.hid ((T2.out.set p _).congr fun j hj => by
              by_cases e : j = p
              · subst e; rw [if_pos rfl, if_pos (by omega), Int.natCast_mul]
              · rw [if_neg e]
                by_cases e2 : j < p
                · rw [if_pos e2, if_pos (by omega)]
                · rw [if_neg e2, if_neg (by omega)])
            have T4 := Lib.hid (T1.out.setOther (a := ⟨G1, p, none⟩) (fun e => N1.out.1 e) (.int .i64 ((befAt xs s p : Int) * (wayAt xs s p : Int))))
            have HB6 := Lib.hid (HB5.out.setCell (p := ⟨G1, p, none⟩) (Nat.le_of_lt N1.out.2.2) (.int .i64 ((befAt xs s p : Int) * (wayAt xs s p : Int)))).drew
            have hpr : ((befAt xs s p * wayAt xs s p : Nat) : Int) = (befAt xs s p : Int) * (wayAt xs s p : Int) := Int.natCast_mul _ _
            generalize befAt xs s p = y1 at e2 hb1 hb3 T3 T4 HB6 hpr
            generalize wayAt xs s p = y2 at e1 hb1 hb2 T3 T4 HB6 hpr
            obtain ⟨y3, hy3⟩ : ∃ y3 : Nat, y3 = y1 * y2 := ⟨_, rfl⟩
            rw [← hy3] at hb1 hpr
            have q1 : IntKind.i64.wrap ((y1 : Int) * (y2 : Int)) = (y1 : Int) * (y2 : Int) := by rw [← hpr, IntKind.wrap_i64]; omega
            have q2 : wrap64 ((y1 : Int) * (y2 : Int)) = (y1 : Int) * (y2 : Int) := by rw [← hpr]; exact IntWalk.wrap64_in _ (by omega)
            have z0 : (0 : Int) ≤ (p : Int) := by omega
            have z1 : (p : Int) < (s.size : Int) + 1 := by omega
            have z2 : (p : Int) ≤ (s.size : Int) := by omega
            clear hy3
            go_wp2
            go_region
            go_wp2
            go_roundw
            case rel => exact ⟨p + 1, by go_num, by omega, T4, T3, HB6⟩
            case measure => simp [intOf]; omega
          · obtain rfl : p = s.size + 1 := by omega
            have e1 := T1.out.cell (i := 0) (by omega)
            have z1 : (0 : Int) < (s.size : Int) + 1 := by omega
            go_wp2
            go_quiet (fail)
            go_wp2
            go_ret2
            exact ⟨⟨G1, rfl, Nat.le_of_lt N1.out.2.2, T2.out.congr fun j hj => by rw [if_pos hj]⟩, HB5.out.trans ⟨rfl, rfl, rfl, Nat.le_refl _, fun _ _ => rfl⟩⟩
end Go.Proofs.Ytekgmdigchobbaa
