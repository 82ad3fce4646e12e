/-
  timeOf, isFirstText, isBefore of the program, l8Before of the model; MarksBefore, the program's and the model's: both answer alike. Used by the claims on chapter 8.
-/
import Derived.Test.YtdphjnbelggcfaaBfL
import Derived.Test.YtdphjnbelggcfaaMkTimeW
namespace Go.Proofs.Ytdphjnbelggcfaa
open Go.RowKit
set_option linter.unusedVariables false

theorem timeOf_any (s : ByteArray) (w : World) (h : marksL (bl s) = true) :
    Calls Try.prog 138 #[.string s] w fun e w' => e = .returned (.int .i64 ((tml (bl s) : Nat) : Int)) ∧ Below w.heap.size w w' := by
  have hs : s.size ≤ 1048576 := by
    simp only [marksL, Bool.and_eq_true, decide_eq_true_eq, bl_len] at h; omega
  have HR : Hid (mkTimeR s = (((tml (bl s) : Nat) : Int), true)) := Lib.hid (if_pos h)
  have F := Lib.hid fun w => timeMarks_any s w hs
  clear h hs
  go_enter Try.func138, Try.ntmps138
  go_wp2_with fail
  refine (F.out _).mono ?_
  rw [HR.out]
  rintro e w1 ⟨rfl, hb⟩
  have HB := Lib.hid hb
  clear hb
  go_wp2
  go_ret
  exact ⟨rfl, HB.out⟩

theorem isFirst_any (a b : ByteArray) (w : World) (ha : a.size ≤ 5) (hb : b.size ≤ 5) :
    Calls Try.prog 177 #[.string a, .string b] w fun e w' => e = .returned (.bool (firstL (bl a) (bl b))) ∧ w' = w := by
  by_cases h : a.size = b.size
  · have HR : Hid (firstL (bl a) (bl b) = (!Op.bytesLess a.toList b.toList && !a.toList == b.toList)) := Lib.hid (by
      unfold firstL gtL
      rw [if_pos (by rw [bl_len, bl_len]; exact h), ByteArray.toList_eq, ByteArray.toList_eq, Bool.not_or]; rfl)
    have e1 : ((a.size : Int) == (b.size : Int)) = true := by simp [h]
    have e2 : ((a.size : Int) != (b.size : Int)) = false := by simp [h]
    clear h
    rw [HR.out]
    go_enter Try.func177, Try.ntmps177
    go_wp2
    go_ret
    exact ⟨rfl, rfl⟩
  · have HR : Hid (firstL (bl a) (bl b) = decide (a.size < b.size)) := Lib.hid (by
      unfold firstL
      rw [if_neg (by rw [bl_len, bl_len]; exact h), bl_len, bl_len])
    have e1 : ((a.size : Int) == (b.size : Int)) = false := beq_false_of_ne (by omega)
    have e2 : ((a.size : Int) != (b.size : Int)) = true := by rw [bne, e1]; rfl
    clear h
    rw [HR.out]
    go_enter Try.func177, Try.ntmps177
    go_wp2
    go_ret
    exact ⟨rfl, rfl⟩

theorem isBefore_any (a b : ByteArray) (w : World) (ha : marksL (bl a) = true) (hb : marksL (bl b) = true) :
    Calls Try.prog 155 #[.string a, .string b] w fun e w' => e = .returned (.bool (befL (bl a) (bl b))) ∧ Below w.heap.size w w' := by
  have sa : a.size ≤ 5 := by simp only [marksL, Bool.and_eq_true, decide_eq_true_eq, bl_len] at ha; omega
  have sb : b.size ≤ 5 := by simp only [marksL, Bool.and_eq_true, decide_eq_true_eq, bl_len] at hb; omega
  have F1 := Lib.hid fun w => timeOf_any a w ha
  have F2 := Lib.hid fun w => timeOf_any b w hb
  have F3 := Lib.hid fun w => isFirst_any a b w sa sb
  have HR : Hid (befL (bl a) (bl b) = if tml (bl a) = tml (bl b) then firstL (bl a) (bl b) else decide (tml (bl a) < tml (bl b))) := Lib.hid rfl
  clear ha hb sa sb
  generalize tml (bl a) = x at F1 HR
  generalize tml (bl b) = y at F2 HR
  by_cases h : x = y
  · subst h
    rw [if_pos rfl] at HR
    go_enter Try.func155, Try.ntmps155
    go_wp2_with fail
    refine (F1.out _).mono ?_
    rintro e w1 ⟨rfl, hb⟩
    have HB1 := Lib.hid hb
    clear hb
    go_wp2_with fail
    refine (F2.out _).mono ?_
    rintro e w2 ⟨rfl, hb⟩
    have HB2 := Lib.hid (HB1.out.trans (hb.mono HB1.out.size))
    clear hb
    go_wp2_with fail
    refine (F3.out _).mono ?_
    rintro e w3 ⟨rfl, hww⟩
    obtain rfl := hww.symm
    go_wp2
    go_ret
    exact ⟨by rw [HR.out]; rfl, HB2.out⟩
  · rw [if_neg h] at HR
    have e1 : ((x : Int) == (y : Int)) = false := beq_false_of_ne (by omega)
    have e2 : ((x : Int) != (y : Int)) = true := by rw [bne, e1]; rfl
    have HR2 : Hid (befL (bl a) (bl b) = decide (x < y)) := Lib.hid HR.out
    clear h
    go_enter Try.func155, Try.ntmps155
    go_wp2_with fail
    refine (F1.out _).mono ?_
    rintro e w1 ⟨rfl, hb⟩
    have HB1 := Lib.hid hb
    clear hb
    go_wp2_with fail
    refine (F2.out _).mono ?_
    rintro e w2 ⟨rfl, hb⟩
    have HB2 := Lib.hid (HB1.out.trans (hb.mono HB1.out.size))
    clear hb
    go_wp2
    go_ret
    exact ⟨by rw [HR2.out]; rfl, HB2.out⟩

def mbR (a b : ByteArray) : Bool := marksL (bl a) && marksL (bl b)
def mbB (a b : ByteArray) : Bool := mbR a b && befL (bl a) (bl b)
/-! ### The model's -/
set_option maxHeartbeats 1000000 in
theorem sBefore_any (a b : ByteArray) (w : World) (ha : marksL (bl a) = true) (hb : marksL (bl b) = true) :
    Calls Try.prog 130 #[.string a, .string b] w fun e w' => e = .returned (.bool (befL (bl a) (bl b))) ∧ ∃ q, w' = w.drewN q := by
  have sa : a.size ≤ 5 := by simp only [marksL, Bool.and_eq_true, decide_eq_true_eq, bl_len] at ha; omega
  have sb : b.size ≤ 5 := by simp only [marksL, Bool.and_eq_true, decide_eq_true_eq, bl_len] at hb; omega
  have F1 := Lib.hid fun w => sTime_any a w (by omega)
  have F2 := Lib.hid fun w => sTime_any b w (by omega)
  have HR : Hid (befL (bl a) (bl b) = if tml (bl a) = tml (bl b) then firstL (bl a) (bl b) else decide (tml (bl a) < tml (bl b))) := Lib.hid rfl
  have HM := Lib.hid (And.intro (marks_all ha) (marks_all hb))
  clear ha hb
  generalize tml (bl a) = x at F1 HR
  generalize tml (bl b) = y at F2 HR
  by_cases h : x = y
  · subst h
    rw [if_pos rfl] at HR
    by_cases h2 : a.size = b.size
    · have HR2 : Hid (befL (bl a) (bl b) = gtL (bl a) (bl b)) := Lib.hid (by
        rw [HR.out]; unfold firstL; rw [if_pos (by rw [bl_len, bl_len]; exact h2)])
      have e1 : ((a.size : Int) == (b.size : Int)) = true := by simp [h2]
      have e2 : ((a.size : Int) != (b.size : Int)) = false := by simp [h2]
      have HE : Hid (a.size = b.size) := Lib.hid h2
      clear h2
      go_enter Try.func130, Try.ntmps130
      go_wp2_with fail
      refine (F1.out _).mono ?_
      rintro e w1 ⟨rfl, hww⟩
      obtain rfl := hww.symm
      go_wp2_with fail
      refine (F2.out _).mono ?_
      rintro e w2 ⟨rfl, hww⟩
      obtain rfl := hww.symm
      go_wp2
      go_loopw [7] (fun v wr => ∃ (k q : Nat), v = .int .i64 k ∧ k ≤ a.size ∧ Hid ((bl a).take k = (bl b).take k) ∧ wr = w.drewN q) (fun v _ => a.size - (intOf v).toNat)
      case atStart => exact ⟨0, 0, rfl, Nat.zero_le _, Lib.hid (by simp), rfl⟩
      case round =>
        obtain ⟨k, q, rfl, hk, HT, rfl⟩ := hrel
        by_cases hlt : k < a.size
        · have hlb : k < b.size := by have := HE.out; omega
          have HA := Lib.hid (bl_at a k hlt)
          have HBb := Lib.hid (bl_at b k hlb)
          have i0 : (0 : Int) ≤ (k : Int) := by omega
          have i1 : (k : Int) < (a.size : Int) := by omega
          have i2 : (k : Int) < (b.size : Int) := by omega
          by_cases hx : a[k] = b[k]
          · have c1 : ((a[k].toNat : Int) == (b[k].toNat : Int)) = true := by rw [hx]; simp
            have c2 : ((a[k].toNat : Int) != (b[k].toNat : Int)) = false := by rw [bne, c1]; rfl
            have HN : Hid ((bl a).take (k + 1) = (bl b).take (k + 1)) := Lib.hid (by
              rw [List.take_add_one, List.take_add_one, HT.out, HA.out, HBb.out, hx])
            clear hx
            go_wp2
            go_quiet (fail)
            go_wp2
            go_roundw
            case rel => exact ⟨k + 1, _, by go_num, by omega, HN, rfl⟩
            case measure => simp [intOf]; omega
          · have HG : Hid (gtL (bl a) (bl b) = decide (a[k].toNat = 46)) := Lib.hid (gt_at HM.out.1 HM.out.2 HT.out HA.out HBb.out hx)
            have c1 : ((a[k].toNat : Int) == (b[k].toNat : Int)) = false := beq_false_of_ne (fun e => hx (UInt8.toNat_inj.1 (by omega)))
            have c2 : ((a[k].toNat : Int) != (b[k].toNat : Int)) = true := by rw [bne, c1]; rfl
            have HV : Hid (befL (bl a) (bl b) = ((a[k].toNat : Int) == 46)) := Lib.hid (by
              rw [HR2.out, HG.out]
              by_cases e : a[k].toNat = 46
              · rw [e]; rfl
              · rw [decide_eq_false e]; exact (beq_false_of_ne (by omega)).symm)
            clear hx
            go_wp2
            go_quiet (fail)
            go_wp2
            go_ret
            exact ⟨by rw [HV.out]; rfl, _, rfl⟩
        · have HF : Hid (befL (bl a) (bl b) = false) := Lib.hid (by
            have h1 := HT.out
            rw [List.take_of_length_le (by rw [bl_len]; omega), List.take_of_length_le (by rw [bl_len]; have := HE.out; omega)] at h1
            rw [HR2.out, h1, gt_self])
          go_wp2
          go_ret
          exact ⟨by rw [HF.out]; rfl, q, rfl⟩
    · have HR2 : Hid (befL (bl a) (bl b) = decide (a.size < b.size)) := Lib.hid (by
        rw [HR.out]; unfold firstL
        rw [if_neg (by rw [bl_len, bl_len]; exact h2), bl_len, bl_len])
      have e1 : ((a.size : Int) == (b.size : Int)) = false := beq_false_of_ne (by omega)
      have e2 : ((a.size : Int) != (b.size : Int)) = true := by rw [bne, e1]; rfl
      clear h2
      go_enter Try.func130, Try.ntmps130
      go_wp2_with fail
      refine (F1.out _).mono ?_
      rintro e w1 ⟨rfl, hww⟩
      obtain rfl := hww.symm
      go_wp2_with fail
      refine (F2.out _).mono ?_
      rintro e w2 ⟨rfl, hww⟩
      obtain rfl := hww.symm
      go_wp2
      go_ret
      exact ⟨by rw [HR2.out]; rfl, 0, rfl⟩
  · rw [if_neg h] at HR
    have e1 : ((x : Int) == (y : Int)) = false := beq_false_of_ne (by omega)
    have e2 : ((x : Int) != (y : Int)) = true := by rw [bne, e1]; rfl
    have HR2 : Hid (befL (bl a) (bl b) = decide (x < y)) := Lib.hid HR.out
    clear h
    go_enter Try.func130, Try.ntmps130
    go_wp2_with fail
    refine (F1.out _).mono ?_
    rintro e w1 ⟨rfl, hww⟩
    obtain rfl := hww.symm
    go_wp2_with fail
    refine (F2.out _).mono ?_
    rintro e w2 ⟨rfl, hww⟩
    obtain rfl := hww.symm
    go_wp2
    go_ret
    exact ⟨by rw [HR2.out]; rfl, 0, rfl⟩

end Go.Proofs.Ytdphjnbelggcfaa
