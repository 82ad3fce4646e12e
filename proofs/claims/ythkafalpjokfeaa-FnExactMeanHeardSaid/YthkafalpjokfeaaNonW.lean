/-
  areMarksOrNone of the program, the same test of the model: texts of marks, the empty one too. Used by the claims on chapter 9.
-/
import Derived.Test.YthkafalpjokfeaaSignW
import Derived.Deep.RegionWith
namespace Go.Proofs.Ythkafalpjokfeaa
open Go.RowKit
set_option linter.unusedVariables false

/-- Marks of a letter, or none. -/
def noneT (s : ByteArray) : Bool := decide (s.size ≤ 5) && (bl s).all isMk
theorem noneT_size {s : ByteArray} (h : noneT s = true) : s.size ≤ 5 := by
  simp only [noneT, Bool.and_eq_true, decide_eq_true_eq] at h; exact h.1
theorem noneT_empty {s : ByteArray} (h : s.size = 0) : noneT s = true := by
  have : bl s = [] := List.length_eq_zero_iff.1 (by rw [bl_len]; exact h)
  simp [noneT, h, this]
theorem noneT_some {s : ByteArray} (h : s.size ≠ 0) : noneT s = marksL (bl s) := by
  have h1 : decide (1 ≤ s.size) = true := decide_eq_true (by omega)
  simp [noneT, marksL, bl_len, h1]
theorem noneT_marks {s : ByteArray} (h : marksL (bl s) = true) : noneT s = true := by
  rw [noneT_some (by simp only [marksL, Bool.and_eq_true, decide_eq_true_eq, bl_len] at h; omega), h]
/-! ### The model's -/
theorem snone_any (s : ByteArray) (w : World) (hs : s.size ≤ maxLen) :
    Calls Try.prog 70 #[.string s, .int .i64 0, .int .i64 5] w fun e w' => e = .returned (.bool (noneT s)) ∧ ∃ q, w' = w.drewN q := by
  unfold maxLen at hs
  have HIn := Lib.hid fun w => in_any s.size 0 5 w
  go_enter Try.func70, Try.ntmps70
  go_wp2
  go_loopw [7] (fun v wr => ∃ (k q : Nat), v = .int .i64 k ∧ k ≤ s.size ∧ k ≤ 6 ∧ Hid (((bl s).take k).all isMk = true) ∧ wr = w.drewN q) (fun v _ => s.size - (intOf v).toNat)
  case atStart => exact ⟨0, 0, rfl, Nat.zero_le _, by omega, Lib.hid (by simp), rfl⟩
  case round =>
    obtain ⟨k, q, rfl, hk, hk41, HA, rfl⟩ := hrel
    by_cases hlt : k < s.size
    · by_cases h5 : k ≤ 5
      · have HBy := Lib.hid (bl_at s k hlt)
        by_cases hmk : isMk s[k] = true
        · have HN : Hid (((bl s).take (k + 1)).all isMk = true) := Lib.hid (by
            rw [List.take_add_one, HBy.out, List.all_append, HA.out]; simp [hmk])
          rw [mk_iff] at hmk
          simp only [decide_eq_true_eq] at hmk
          rcases hmk with hmk | hmk
          · have e1 : ((s[k].toNat : Int) == 46) = true := by simp; omega
            have e2 : ((s[k].toNat : Int) != 46) = false := by simp; omega
            clear hmk
            go_wp2
            go_roundw
            case rel => exact ⟨k + 1, q, by go_num, by omega, by omega, HN, rfl⟩
            case measure => simp [intOf]; omega
          · have e1 : ((s[k].toNat : Int) == 46) = false := beq_false_of_ne (by omega)
            have e2 : ((s[k].toNat : Int) != 46) = true := by rw [bne, e1]; rfl
            have e3 : ((s[k].toNat : Int) == 45) = true := by simp; omega
            have e4 : ((s[k].toNat : Int) != 45) = false := by rw [bne, e3]; rfl
            clear hmk
            go_wp2
            go_roundw
            case rel => exact ⟨k + 1, q, by go_num, by omega, by omega, HN, rfl⟩
            case measure => simp [intOf]; omega
        · have HF : Hid (noneT s = false) := Lib.hid (by
            rw [Bool.eq_false_iff]
            intro h
            simp only [noneT, Bool.and_eq_true] at h
            exact hmk (List.all_eq_true.1 h.2 _ (List.mem_of_getElem? HBy.out)))
          rw [mk_iff] at hmk
          simp only [decide_eq_true_eq, not_or] at hmk
          obtain ⟨m1, m2⟩ := hmk
          have e1 : ((s[k].toNat : Int) == 46) = false := beq_false_of_ne (by omega)
          have e2 : ((s[k].toNat : Int) != 46) = true := by rw [bne, e1]; rfl
          have e3 : ((s[k].toNat : Int) == 45) = false := beq_false_of_ne (by omega)
          have e4 : ((s[k].toNat : Int) != 45) = true := by rw [bne, e3]; rfl
          clear m1 m2
          go_wp2
          go_ret
          exact ⟨by rw [HF.out]; rfl, q, rfl⟩
      · have HF : Hid (noneT s = (decide ((0 : Int) ≤ (s.size : Int)) && decide ((s.size : Int) ≤ 5))) := Lib.hid (by
          have h1 : ¬ (s.size : Int) ≤ 5 := by omega
          have h2 : ¬ s.size ≤ 5 := by omega
          simp [noneT, h1, h2])
        go_wp2_with fail
        refine (HIn.out _).mono ?_
        rintro e w' ⟨rfl, rfl⟩
        go_wp2
        go_ret
        exact ⟨by rw [HF.out]; rfl, q, rfl⟩
    · have HF : Hid (noneT s = (decide ((0 : Int) ≤ (s.size : Int)) && decide ((s.size : Int) ≤ 5))) := Lib.hid (by
        have h1 := HA.out
        rw [List.take_of_length_le (by rw [bl_len]; omega)] at h1
        have h2 : decide ((0 : Int) ≤ (s.size : Int)) = true := decide_eq_true (by omega)
        simp only [noneT, h1, Bool.and_true, h2, Bool.true_and]
        exact decide_eq_decide.2 (by omega))
      go_wp2_with fail
      refine (HIn.out _).mono ?_
      rintro e w' ⟨rfl, rfl⟩
      go_wp2
      go_ret
      exact ⟨by rw [HF.out]; rfl, q, rfl⟩

/-! ### The program's -/
theorem list_empty (s : ByteArray) : s.toList = [] ↔ s.size = 0 := by
  rw [ByteArray.toList_eq]
  constructor
  · intro h; have := congrArg List.length h; simpa using this
  · intro h; exact List.length_eq_zero_iff.1 (by simpa using h)
theorem none_any (s : ByteArray) (w : World) (hs : s.size ≤ maxLen) :
    Calls Try.prog 72 #[.string s] w fun e w' => e = .returned (.bool (noneT s)) ∧ Below w.heap.size w w' := by
  have F := Lib.hid fun w => areMarks_any s w hs
  unfold maxLen at hs
  by_cases hz : s.size = 0
  · have HR : Hid (noneT s = true) := Lib.hid (noneT_empty hz)
    have h1 : s.toList = [] := (list_empty s).2 hz
    have h2 : s.toList.isEmpty = true := by rw [h1]; rfl
    have h3 : (!s.toList.isEmpty) = false := by rw [h2]; rfl
    clear hz
    rw [HR.out]
    go_enter Try.func72, Try.ntmps72
    go_wp2
    go_ret
    exact ⟨rfl, Below.refl _ _⟩
  · have HR : Hid (noneT s = marksL (bl s)) := Lib.hid (noneT_some hz)
    have h1 : ¬ s.toList = [] := fun e => hz ((list_empty s).1 e)
    have h2 : s.toList.isEmpty = false := by rw [Bool.eq_false_iff]; intro e; exact h1 (by simpa using e)
    have h3 : (!s.toList.isEmpty) = true := by rw [h2]; rfl
    clear hz
    rw [HR.out]
    go_enter Try.func72, Try.ntmps72
    go_wp2_with fail
    refine (F.out _).mono ?_
    rintro e w1 ⟨rfl, hb⟩
    have HB := Lib.hid hb
    clear hb
    go_wp2
    go_ret
    exact ⟨rfl, HB.out⟩

theorem val_both {F : Nat} {args : Array Value} {b v : Bool} {w : World} (h : Calls Try.prog F args w fun e w' => e = .returned (.bool b) ∧ Below w.heap.size w w') (e : b = v) : Calls Try.prog F args w fun e w' => e = .returned (.bool v) ∧ Below w.heap.size w w' := by rw [← e]; exact h
theorem val_draw {F : Nat} {args : Array Value} {b v : Bool} {w : World} (h : Calls Try.prog F args w fun e w' => e = .returned (.bool b) ∧ ∃ q, w' = w.drewN q) (e : b = v) : Calls Try.prog F args w fun e w' => e = .returned (.bool v) ∧ ∃ q, w' = w.drewN q := by rw [← e]; exact h
theorem below_drewN' {w w' : World} {n q : Nat} (h : Below n w w') : Below n w (w'.drewN q) := ⟨h.os, h.tape, h.output, h.size, h.block⟩

end Go.Proofs.Ythkafalpjokfeaa
