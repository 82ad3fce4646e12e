/-
  CountByTime of the model; both answer alike. Used by the claims on chapter 8.
-/
import Derived.Test.YtfnklfpcmgjfjaaCbtW
import Derived.Test.YtfnklfpcmgjfjaaSignW
import Derived.Test.YtfnklfpcmgjfjaaPieceW
namespace Go.Proofs.Ytfnklfpcmgjfjaa
open Go.RowKit
set_option linter.unusedVariables false

def rowF (n x j : Nat) : Value := .int .i64 ((if j < n then cbt j else if j = n then x else 0 : Nat) : Int)
theorem rowF_at (n x : Nat) : rowF n x n = .int .i64 (x : Int) := by simp [rowF]
theorem rowF_lt {n x j : Nat} (h : j < n) : rowF n x j = .int .i64 (cbt j : Int) := by simp [rowF, h]
structure RowC (wr : World) (B n x : Nat) : Prop where
  row : wr.rowIs B 3 31 (rowF n x)
theorem RowC.set {wr : World} {B n x : Nat} (h : RowC wr B n x) (y : Nat) : RowC (wr.setCell ⟨B, n, none⟩ (.int .i64 (y : Int))) B n y :=
  ⟨(h.row.set n (.int .i64 (y : Int))).congr fun i hi => by
    by_cases e : i = n
    · subst e; rw [if_pos rfl, rowF_at]
    · rw [if_neg e]; simp [rowF, e]⟩
theorem RowC.next {wr : World} {B n : Nat} (h : RowC wr B n (cbt n)) : RowC wr B (n + 1) 0 :=
  ⟨h.row.congr fun i hi => by
    unfold rowF
    by_cases e : i < n
    · rw [if_pos e, if_pos (by omega)]
    · rw [if_neg e]
      by_cases e2 : i = n
      · subst e2; rw [if_pos rfl, if_pos (by omega)]
      · rw [if_neg e2, if_neg (by omega)]; simp⟩
theorem RowC.cell {wr : World} {B n x : Nat} (h : RowC wr B n x) (hn : n < 31) : wr.cell? ⟨B, n, none⟩ = some (.int .i64 (x : Int)) := by
  have := h.row.cell hn
  rwa [rowF_at] at this
theorem RowC.at_ {wr : World} {B n x j : Nat} (h : RowC wr B n x) (hn : n ≤ 31) (hj : j < n) : wr.cell? ⟨B, j, none⟩ = some (.int .i64 (cbt j : Int)) := by
  have := h.row.cell (i := j) (by omega)
  rwa [rowF_lt hj] at this

theorem RowC.drew {wr : World} {B n x : Nat} (h : RowC wr B n x) : RowC wr.drew B n x := ⟨h.row⟩
theorem small_wrap {x : Nat} (h : x ≤ 2000) : IntKind.i64.wrap (x : Int) = (x : Int) ∧ wrap64 (x : Int) = (x : Int) := ⟨IntWalk.i64_in _ (by omega), IntWalk.wrap64_in _ (by omega)⟩
/-- What the inner loop has added: nothing, the dots' part, all. -/
def cbP (n m x : Nat) : Prop := (m = 1 ∧ x = 0) ∨ (m = 3 ∧ x = cbm n) ∨ (m = 5 ∧ x = cbt n)
set_option maxHeartbeats 2000000 in
set_option maxRecDepth 10000 in
theorem sCountByTime_any (t : Int) (w : World) :
    Calls Try.prog 52 #[.int .i64 t] w fun e w' => e = .returned (.tuple #[.int .i64 (cbZ t), .bool (cbOk t)]) ∧ Below w.heap.size w w' := by
  have HI := Lib.hid fun w => in_any t 1 30 w
  cases hok : cbOk t
  · have HR : Hid (cbZ t = 0) := Lib.hid (by simp [cbZ, hok])
    have HI2 := Lib.hid fun w => val_eqS (v' := .bool false) (HI.out w) (by congr 1)
    clear hok HI
    rw [HR.out]
    go_enter Try.func52, Try.ntmps52
    go_wp2_with fail
    refine (HI2.out _).mono ?_
    rintro e w' ⟨rfl, hww⟩
    obtain rfl := hww.symm
    go_wp2
    go_ret2
    exact ⟨rfl, Below.refl _ _⟩
  · have ht : 1 ≤ t ∧ t ≤ 30 := by simpa [cbOk] using hok
    have HI2 := Lib.hid fun w => val_eqS (v' := .bool true) (HI.out w) (by congr 1)
    have HR0 : Hid (cbZ t = ((cbt t.toNat : Nat) : Int)) := Lib.hid (by simp [cbZ, hok])
    clear hok HI
    obtain ⟨N, rfl⟩ : ∃ n : Nat, t = (n : Int) := ⟨t.toNat, by omega⟩
    have n1 : 1 ≤ N := by omega
    have n30 : N ≤ 30 := by omega
    have HR : Hid (cbZ (N : Int) = ((cbt N : Nat) : Int)) := HR0
    clear ht HR0
    rw [HR.out]
    have hmk : ∀ w : World, (Instr.makeSlice 25 (.int .i64 31) (.int .i64 31)).run Try.prog w = .ok (.slice (some ⟨w.heap.size, 0, none⟩) 31 31) (w.alloc (.cells (madeCells #[.int .i64 0] 31) 3)) := run_make_row' (P := Try.prog) 25 3 (.int .i64 0) 8 Try.underlying25 infoIc rfl .i64 .i64 31 (by omega) (by omega)
    have HR31 : Hid (RowC (w.alloc (.cells (madeCells #[.int .i64 0] 31) 3)) w.heap.size 1 0) := Lib.hid ⟨(World.rowIs_made w (.int .i64 0) 31 3).congr fun i hi => by
      unfold rowF
      by_cases e : i < 1
      · obtain rfl : i = 0 := by omega
        rfl
      · rw [if_neg e]; simp⟩
    have HB0 := Lib.hid (below_alloc w (.cells (madeCells #[.int .i64 0] 31) 3))
    go_enter Try.func52, Try.ntmps52
    go_wp2_with fail
    refine (HI2.out _).mono ?_
    rintro e w' ⟨rfl, hww⟩
    obtain rfl := hww.symm
    go_wp2
    go_loopw [5] (fun v wr => ∃ n : Nat, v = .int .i64 n ∧ 1 ≤ n ∧ n ≤ N + 1 ∧ Hid (RowC wr w.heap.size n 0) ∧ Hid (Below w.heap.size w wr)) (fun v _ => N + 1 - (intOf v).toNat)
    case atStart => exact ⟨1, rfl, Nat.le_refl _, by omega, HR31, HB0⟩
    case round =>
      obtain ⟨n, rfl, hn1, hnN, HC, HB⟩ := hrel
      clear hmk
      by_cases hlt : n ≤ N
      · have hk : (n : Int) ≤ (N : Int) := by omega
        obtain ⟨wo, hwo⟩ : ∃ wo : World, wo = wr := ⟨_, rfl⟩
        have HP0 : Hid (cbP n 1 0) := Lib.hid (.inl ⟨rfl, rfl⟩)
        go_wp2
        go_loopw [6] (fun v wr => ∃ m x : Nat, v = .int .i64 m ∧ m ≤ 5 ∧ Hid (cbP n m x) ∧ Hid (RowC wr w.heap.size n x) ∧ Hid (Below w.heap.size w wr)) (fun v _ => 5 - (intOf v).toNat)
        case atStart => exact ⟨1, 0, rfl, by omega, HP0, HC, HB⟩
        case round =>
          clear HC HB hwo HP0
          obtain ⟨m, x, rfl, hm5, HP, HC, HB⟩ := hrel
          have hk2 : n < 31 := by omega
          have c0 := HC.out.cell hk2
          have c1 := HC.out.row.frozen n
          have i0 : (0 : Int) ≤ (n : Int) := by omega
          have i1 : (n : Int) < 31 := by omega
          rcases HP.out with ⟨rfl, rfl⟩ | ⟨rfl, rfl⟩ | ⟨rfl, rfl⟩
          · -- the dot
            rcases (show n = 1 ∨ n = 2 ∨ 3 ≤ n by omega) with rfl | rfl | h3
            · have HP2 : Hid (cbP 1 3 1) := Lib.hid (.inr (.inl ⟨rfl, rfl⟩))
              have HC2 := Lib.hid (HC.out.set 1)
              have HB2 := Lib.hid (HB.out.setCell (p := ⟨w.heap.size, 1, none⟩) (Nat.le_refl _) (.int .i64 1))
              go_wp2
              go_roundw
              case rel => exact ⟨3, 1, rfl, by omega, HP2, HC2, HB2⟩
              case measure => simp [intOf]
            · have HP2 : Hid (cbP 2 3 0) := Lib.hid (.inr (.inl ⟨rfl, rfl⟩))
              go_wp2
              go_roundw
              case rel => exact ⟨3, 0, rfl, by omega, HP2, HC, HB⟩
              case measure => simp [intOf]
            · obtain ⟨p, hp⟩ : ∃ p, n = p + 1 + 1 := ⟨n - 2, by omega⟩
              have d1 := HC.out.at_ (j := p) (by omega) (by omega)
              have b1 := cbt_le p (by omega)
              have HP2 : Hid (cbP n 3 (cbt p)) := Lib.hid (.inr (.inl ⟨rfl, by unfold cbm; rw [if_neg (by omega), if_pos (by omega), hp]; simp⟩))
              have e1 : ((n : Int) == 1) = false := beq_false_of_ne (by omega)
              have j0 : (0 : Int) ≤ (p : Int) := by omega
              have j1 : (p : Int) < 31 := by omega
              have j2 : (0 : Int) < (n : Int) - 1 - 1 := by omega
              have j3 : (p : Int) + 1 ≤ 31 := by omega
              have ed : p = n - 1 - 1 := by omega
              generalize cbt p = y at d1 b1 HP2
              rw [ed] at d1
              clear ed
              have c0' : wr.cell? ⟨w.heap.size, n, none⟩ = some (.int .i64 0) := c0
              have HC2 := Lib.hid (HC.out.set y)
              have HB2 := Lib.hid (HB.out.setCell (p := ⟨w.heap.size, n, none⟩) (Nat.le_refl _) (.int .i64 (y : Int)))
              clear hp c0
              have Y := small_wrap (x := y) b1
              obtain ⟨u7, u8⟩ := Y
              go_wp2
              go_region
              all_goals (
                clear u7 u8
                go_wp2
                go_roundw
                case rel => exact ⟨3, y, rfl, by omega, HP2, Lib.hid HC2.out.drew, Lib.hid HB2.out.drew⟩
                case measure => simp [intOf])
          · -- the dash
            have HCb := cbm_all n (by omega) hn1
            have hb0 := cbt_le n (by omega)
            have hx : cbm n ≤ 2000 := by omega
            rcases (show n = 3 ∨ (n < 5 ∧ n ≠ 3) ∨ 5 ≤ n by omega) with rfl | ⟨h5, h3⟩ | h5
            · have e0 : cbm 3 = 1 := by decide
              have e2 : cbt 3 = 2 := by decide
              rw [e0] at c0
              have HP2 : Hid (cbP 3 5 2) := Lib.hid (.inr (.inr ⟨rfl, e2.symm⟩))
              have HC2 := Lib.hid (HC.out.set 2)
              have HB2 := Lib.hid (HB.out.setCell (p := ⟨w.heap.size, 3, none⟩) (Nat.le_refl _) (.int .i64 2))
              have c0' : wr.cell? ⟨w.heap.size, 3, none⟩ = some (.int .i64 1) := c0
              clear c0 HCb
              go_wp2
              go_roundw
              case rel => exact ⟨5, 2, rfl, by omega, HP2, HC2, HB2⟩
              case measure => simp [intOf]
            · have HP2 : Hid (cbP n 5 (cbm n)) := Lib.hid (.inr (.inr ⟨rfl, by rw [HCb, if_neg h3, if_neg (by omega)]; rfl⟩))
              have e1 : ((n : Int) == 3) = false := beq_false_of_ne (by omega)
              have j2 : ¬ (0 : Int) < (n : Int) - 3 - 1 := by omega
              generalize cbm n = x at *
              clear HCb
              go_wp2
              go_roundw
              case rel => exact ⟨5, x, rfl, by omega, HP2, HC, HB⟩
              case measure => simp [intOf]
            · obtain ⟨p, hp⟩ : ∃ p, n = p + 3 + 1 := ⟨n - 4, by omega⟩
              have d1 := HC.out.at_ (j := p) (by omega) (by omega)
              have b1 := cbt_le p (by omega)
              have HP2 : Hid (cbP n 5 (cbm n + cbt p)) := Lib.hid (.inr (.inr ⟨rfl, by rw [HCb, if_neg (by omega), if_pos (by omega), hp]; simp⟩))
              have e1 : ((n : Int) == 3) = false := beq_false_of_ne (by omega)
              have j0 : (0 : Int) ≤ (p : Int) := by omega
              have j1 : (p : Int) < 31 := by omega
              have j2 : (0 : Int) < (n : Int) - 3 - 1 := by omega
              have j3 : (p : Int) + 1 ≤ 31 := by omega
              have ed : p = n - 3 - 1 := by omega
              clear HCb
              generalize cbm n = x at *
              generalize cbt p = y at d1 b1 HP2
              rw [ed] at d1
              clear ed
              have HC2 := Lib.hid (HC.out.set (x + y))
              have HB2 := Lib.hid (HB.out.setCell (p := ⟨w.heap.size, n, none⟩) (Nat.le_refl _) (.int .i64 ((x + y : Nat) : Int)))
              clear hp
              obtain ⟨u7, u8⟩ := sum_wrap hx b1
              go_wp2
              go_region
              all_goals (
                clear u7 u8
                go_wp2
                go_roundw
                case rel => exact ⟨5, x + y, rfl, by omega, HP2, Lib.hid HC2.out.drew, Lib.hid HB2.out.drew⟩
                case measure => simp [intOf])
          · -- both are done
            have HC2 := Lib.hid HC.out.next
            go_wp2
            go_roundw
            case rel => exact ⟨n + 1, by go_num, by omega, by omega, HC2, HB⟩
            case measure => simp [intOf]; omega
      · have hk : ¬ (n : Int) ≤ (N : Int) := by omega
        obtain rfl : n = N + 1 := by omega
        have d1 := HC.out.at_ (j := N) (by omega) (by omega)
        have j0 : (0 : Int) ≤ (N : Int) := by omega
        have j1 : (N : Int) < 31 := by omega
        go_wp2
        go_ret2
        exact ⟨rfl, HB.out⟩

theorem countByTime_both (t : Int) (ht : (Lit.int .i64 t).wf = true) : ∃ (R0 : Int) (R1 : Bool),
    Hid (∀ W, Calls Try.prog 52 #[.int .i64 t] W fun e W' => e = .returned (.tuple #[.int .i64 R0, .bool R1]) ∧ Below W.heap.size W W') ∧
    Hid (∀ W, Calls Try.prog 53 #[.int .i64 t] W fun e W' => e = .returned (.tuple #[.int .i64 R0, .bool R1]) ∧ Below W.heap.size W W') :=
  ⟨_, _, fun W => sCountByTime_any t W, fun W => countByTime_any t W ht⟩
end Go.Proofs.Ytfnklfpcmgjfjaa
