/-
  TimeOfMarks, the program's and the model's: both answer alike. Used by the claims on chapter 2.
-/
import Derived.Test.YtdphjnbelggcfaaTimeW
import Derived.Test.YtdphjnbelggcfaaMkTimeW0
namespace Go.Proofs.Ytdphjnbelggcfaa
open Go.RowKit
set_option linter.unusedVariables false

def mkTimeR (s : ByteArray) : Int × Bool := if marksL (bl s) = true then (((tml (bl s) : Nat) : Int), true) else (0, false)

theorem timeMarks_any (s : ByteArray) (w : World) (hs : s.size ≤ 1048576) :
    Calls Try.prog 158 #[.string s] w fun e w' => e = .returned (.tuple #[.int .i64 (mkTimeR s).1, .bool (mkTimeR s).2]) ∧ Below w.heap.size w w' := by
  have F := Lib.hid fun w => areMarks_any s w (by unfold maxLen; omega)
  have G := Lib.hid fun w => timeSig_any s w hs
  by_cases h : marksL (bl s) = true
  · have F2 := Lib.hid fun w => val_eqS (v' := .bool true) (F.out w) (by rw [h])
    have HR : Hid (mkTimeR s = timeR s) := Lib.hid (by
      unfold mkTimeR timeR
      rw [if_pos h, if_pos (by rw [pieces_marks h]; rfl), tm_marks h])
    clear F h
    go_enter Try.func158, Try.ntmps158
    go_wp2_with fail
    refine (F2.out _).mono ?_
    rintro e w1 ⟨rfl, hb⟩
    have HB1 := Lib.hid hb
    clear hb
    go_wp2_with fail
    refine (G.out _).mono ?_
    rintro e w2 ⟨rfl, hb⟩
    have HB2 := Lib.hid (HB1.out.trans (hb.mono HB1.out.size))
    clear hb
    go_wp2
    go_ret2
    exact ⟨by rw [HR.out]; rfl, HB2.out⟩
  · have F2 := Lib.hid fun w => val_eqS (v' := .bool false) (F.out w) (by simp [h])
    have HR : Hid (mkTimeR s = (0, false)) := Lib.hid (if_neg h)
    clear F h
    go_enter Try.func158, Try.ntmps158
    go_wp2_with fail
    refine (F2.out _).mono ?_
    rintro e w1 ⟨rfl, hb⟩
    have HB1 := Lib.hid hb
    clear hb
    go_wp2
    go_ret2
    exact ⟨by rw [HR.out]; rfl, HB1.out⟩

/-! ### The model's -/
def sums (l : Bs) : Nat := (l.map sgm).sum
theorem sums_take (s : ByteArray) (k : Nat) (h : k < s.size) : sums ((bl s).take (k + 1)) = sums ((bl s).take k) + sgm s[k] := by
  unfold sums
  rw [List.take_add_one, bl_at s k h]
  simp
theorem sums_le (l : Bs) : sums l ≤ 3 * l.length := by
  induction l with
  | nil => simp [sums]
  | cons c l ih =>
    have : sgm c ≤ 3 := by unfold sgm; split <;> omega
    simp only [sums, List.map_cons, List.sum_cons, List.length_cons] at ih ⊢
    omega

theorem sTime_any (s : ByteArray) (w : World) (hs : s.size ≤ 1048576) :
    Calls Try.prog 134 #[.string s] w fun e w' => e = .returned (.int .i64 ((tml (bl s) : Nat) : Int)) ∧ w' = w := by
  have HM := Lib.hid fun w => val_eqS (v' := .int .i64 ((s.size - 1 : Nat) : Int)) (mostS_any 0 ((s.size : Int) - 1) w) (by split <;> congr 1 <;> omega)
  go_enter Try.func134, Try.ntmps134
  go_wp2_with fail
  refine (HM.out _).mono ?_
  rintro e w' ⟨rfl, hww⟩
  obtain rfl := hww.symm
  go_wp2
  go_loop [3, 4] (fun t v => ∃ k tm : Nat, v = .int .i64 k ∧ k ≤ s.size ∧ t = .int .i64 tm ∧ tm ≤ 4 * s.size + 3 ∧ Hid (tm = s.size - 1 + sums ((bl s).take k))) (fun _ v => s.size - (intOf v).toNat)
  case atStart => exact ⟨0, s.size - 1, rfl, Nat.zero_le _, rfl, by omega, Lib.hid (by simp [sums])⟩
  case round =>
    obtain ⟨k, tm, rfl, hk, rfl, htm, HT⟩ := hrel
    by_cases hlt : k < s.size
    · have HS := Lib.hid (sums_take s k hlt)
      have HL : Hid (sums ((bl s).take (k + 1)) ≤ 3 * s.size) := Lib.hid (by
        have h1 := sums_le ((bl s).take (k + 1))
        have h2 : ((bl s).take (k + 1)).length ≤ s.size := by rw [List.length_take, bl_len]; omega
        omega)
      by_cases hd : s[k] = 45
      · have heq : ((s[k].toNat : Int) == 45) = true := by rw [hd]; rfl
        have HN : Hid (tm + 1 + 2 = s.size - 1 + sums ((bl s).take (k + 1)) ∧ tm + 1 + 2 ≤ 4 * s.size + 3) := Lib.hid (by
          have h1 := HT.out; have h2 := HS.out; have h3 := HL.out
          have : sgm s[k] = 3 := by rw [hd]; rfl
          omega)
        clear hd
        go_wp2
        go_round
        case rel => exact ⟨k + 1, tm + 1 + 2, by go_num, by omega, by congr 1, HN.out.2, Lib.hid HN.out.1⟩
        case measure => simp [intOf]; omega
      · have heq : ((s[k].toNat : Int) == 45) = false := beq_false_of_ne (fun e => hd (by apply UInt8.toNat_inj.1; show s[k].toNat = 45; omega))
        have HN : Hid (tm + 1 = s.size - 1 + sums ((bl s).take (k + 1)) ∧ tm + 1 ≤ 4 * s.size + 3) := Lib.hid (by
          have h1 := HT.out; have h2 := HS.out; have h3 := HL.out
          have : sgm s[k] = 1 := by unfold sgm; rw [if_neg hd]
          omega)
        clear hd
        go_wp2
        go_round
        case rel => exact ⟨k + 1, tm + 1, by go_num, by omega, by congr 1, HN.out.2, Lib.hid HN.out.1⟩
        case measure => simp [intOf]; omega
    · have HE : Hid (tml (bl s) = tm) := Lib.hid (by
        have h1 := HT.out
        rw [List.take_of_length_le (by rw [bl_len]; omega)] at h1
        unfold tml
        rw [bl_len, h1]; rfl)
      go_wp2
      go_ret
      exact ⟨by rw [HE.out]; rfl, rfl⟩

end Go.Proofs.Ytdphjnbelggcfaa
