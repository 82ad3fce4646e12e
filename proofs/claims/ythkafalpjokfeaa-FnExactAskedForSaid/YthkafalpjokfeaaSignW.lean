/-
  Contracts of isMark, areMarks (the program's) and of l1In, l2Marks (the model's): which texts are marks. Used by the claims on chapter 2.
-/
import Derived.Test.YthkafalpjokfeaaTabT
import Derived.Test.YthkafalpjokfeaaRows
import Derived.WalkKit
import Derived.WalkSpells
import Derived.LoopTactic
import Derived.Handy
import Derived.Lib.Hide
import Derived.IntWalk
import Derived.Deep.QuietTactic
import Derived.BigQuiet
import Derived.Lib.OthersKept
namespace Go.Proofs.Ythkafalpjokfeaa
open Go.RowKit
set_option linter.unusedVariables false

/-- The sign that a range over a text meets: a byte below 128, or a rune that is no sign of ours. -/
theorem sign_at (s : ByteArray) (pos : Nat) (h : pos < s.size) : ∃ r wd : Nat, Utf8.decode s pos = (r, wd) ∧ r ≤ 2147483647 ∧ 1 ≤ wd ∧ ((r < 128 ∧ r = (s[pos]'h).toNat ∧ wd = 1) ∨ (128 ≤ r ∧ 128 ≤ (s[pos]'h).toNat)) := by
  refine ⟨(Utf8.decode s pos).1, (Utf8.decode s pos).2, rfl, decode_le s pos, ?_⟩
  by_cases ha : (s[pos]'h).toNat < 128
  · rw [decode_ascii s pos h ha]
    exact ⟨Nat.le_refl _, .inl ⟨ha, rfl, rfl⟩⟩
  · have := decode_high s pos h (by omega)
    exact ⟨this.2, .inr ⟨this.1, by omega⟩⟩
theorem bl_at (s : ByteArray) (k : Nat) (h : k < s.size) : (bl s)[k]? = some s[k] := byte_at s k h
theorem iterPos_of {w : World} {k : Nat} {s : ByteArray} {p : Nat} (h : w.heap[k]? = some (.stringIter s p)) : w.iterPos k = p := by simp [World.iterPos, h]

theorem isMark_at (r : Nat) (hr : r ≤ 2147483647) (w : World) : Calls Try.prog 127 #[.int .i32 r] w fun e w' => e = .returned (.bool (decide (r = 46 ∨ r = 45))) ∧ w' = w := by
  by_cases h1 : r = 46
  · subst h1
    go_enter Try.func127, Try.ntmps127
    go_wp2
    go_ret
    exact ⟨rfl, rfl⟩
  · by_cases h2 : r = 45
    · subst h2
      go_enter Try.func127, Try.ntmps127
      go_wp2
      go_ret
      exact ⟨rfl, rfl⟩
    · have e1 : ((r : Int) == 46) = false := beq_false_of_ne (by omega)
      have e2 : ((r : Int) == 45) = false := beq_false_of_ne (by omega)
      have HD : Hid (decide (r = 46 ∨ r = 45) = false) := Lib.hid (by simp [h1, h2])
      clear h1 h2
      rw [HD.out]
      go_enter Try.func127, Try.ntmps127
      go_wp2
      go_ret
      exact ⟨rfl, rfl⟩
theorem mk_iff (c : UInt8) : isMk c = decide (c.toNat = 46 ∨ c.toNat = 45) := by
  unfold isMk
  have e : ∀ d : UInt8, (c == d) = decide (c.toNat = d.toNat) := fun d => by
    by_cases h : c = d
    · subst h; simp
    · have : c.toNat ≠ d.toNat := fun e => h (UInt8.toNat_inj.1 e)
      rw [beq_false_of_ne h]; simp [this]
  rw [e, e, Bool.decide_or]; rfl

theorem areMarks_any (s : ByteArray) (w : World) (hs : s.size ≤ maxLen) :
    Calls Try.prog 107 #[.string s] w fun e w' => e = .returned (.bool (marksL (bl s))) ∧ Below w.heap.size w w' := by
  unfold maxLen at hs
  by_cases hz : s.size < 1
  · have HR : Hid (marksL (bl s) = false) := Lib.hid (by simp [marksL, bl_len]; omega)
    rw [HR.out]
    go_enter Try.func107, Try.ntmps107
    go_wp2
    go_ret
    exact ⟨rfl, Below.refl _ _⟩
  · by_cases hz2 : 5 < s.size
    · have HR : Hid (marksL (bl s) = false) := Lib.hid (by simp [marksL, bl_len]; omega)
      rw [HR.out]
      go_enter Try.func107, Try.ntmps107
      go_wp2
      go_ret
      exact ⟨rfl, Below.refl _ _⟩
    · have HR : Hid (marksL (bl s) = (bl s).all isMk) := Lib.hid (by
        have h1 : 1 ≤ s.size := by omega
        have h2 : s.size ≤ 5 := by omega
        simp [marksL, bl_len, h1, h2])
      rw [HR.out]
      go_enter Try.func107, Try.ntmps107
      go_wp2
      go_loopw [] (fun wr => ∃ pos, wr.heap[w.heap.size]? = some (.stringIter s pos) ∧ pos ≤ s.size ∧ Hid (Below w.heap.size w wr) ∧ Hid (((bl s).take pos).all isMk = true)) (fun wr => s.size - wr.iterPos w.heap.size)
      case atStart => exact ⟨0, World.iter_heap w s 0, Nat.zero_le _, (Below.refl _ _).alloc (Nat.le_refl _) _, Lib.hid (by simp)⟩
      case round =>
        obtain ⟨pos, hit, hp, HB, HA⟩ := hrel
        have HP := Lib.hid (iterPos_of hit)
        by_cases hlt : pos < s.size
        · obtain ⟨r, wd, hde, hr, hwd, hcase⟩ := sign_at s pos hlt
          have hnx : ∀ ty, (Instr.next (.pointer (some ⟨w.heap.size, 0, none⟩)) true ty).run Try.prog wr = _ := fun ty => Lib.run_next_any_at wr w.heap.size s pos ty hit hlt
          have hit2 := Lib.iterAt_heap wr w.heap.size s pos (pos + wd) hit
          have HB2 : Hid (Below w.heap.size w (wr.iterAt w.heap.size s (pos + wd))) := Lib.hid (Lib.below_iterAt HB.out (k := w.heap.size) (Nat.le_refl _) s (pos + wd))
          rw [hde] at hnx
          simp only at hnx
          have HI := Lib.hid fun w => isMark_at r hr w
          have HBy := Lib.hid (bl_at s pos hlt)
          have HC := Lib.hid hcase
          have HAll : Hid (r = 46 ∨ r = 45 → ((bl s).take (pos + wd)).all isMk = true ∧ pos + wd ≤ s.size) := fun h => by
            rcases hcase with ⟨_, h2, h3⟩ | ⟨h1, _⟩
            · subst h3
              refine ⟨?_, by omega⟩
              rw [List.take_add_one, HBy.out, List.all_append, HA.out]
              simp [mk_iff, ← h2, h]
            · omega
          have HNo : Hid (¬ (r = 46 ∨ r = 45) → (bl s).all isMk = false) := fun h => by
            rw [Bool.eq_false_iff]
            intro hall
            have := List.all_eq_true.1 hall _ (List.mem_of_getElem? HBy.out)
            rw [mk_iff] at this
            rcases hcase with ⟨_, h2, _⟩ | ⟨h1, h2⟩
            · rw [← h2] at this; exact h (by simpa using this)
            · simp at this; omega
          obtain ⟨W1, hW1⟩ : ∃ W1, W1 = wr.iterAt w.heap.size s (pos + wd) := ⟨_, rfl⟩
          rw [← hW1] at hnx hit2 HB2
          have HWd := Lib.hid hwd
          clear hW1 hit hde hcase hwd
          by_cases hmk : r = 46 ∨ r = 45
          · have HAl := Lib.hid (HAll.out hmk)
            have HI2 : Hid (∀ w, Calls Try.prog 127 #[.int .i32 r] w fun e w' => e = .returned (.bool true) ∧ w' = w) := Lib.hid fun w => (HI.out w).mono fun e w' ⟨h1, h2⟩ => ⟨by rw [h1]; simp [hmk], h2⟩
            clear hmk
            go_wp2_with fail
            refine (HI2.out _).mono ?_
            rintro e w' ⟨rfl, rfl⟩
            go_wp2
            go_roundw
            case rel => exact ⟨pos + wd, hit2, HAl.out.2, HB2, Lib.hid HAl.out.1⟩
            case measure => rw [iterPos_of hit2, HP.out]; have := HWd.out; omega
          · have HN := Lib.hid (HNo.out hmk)
            have HI2 : Hid (∀ w, Calls Try.prog 127 #[.int .i32 r] w fun e w' => e = .returned (.bool false) ∧ w' = w) := Lib.hid fun w => (HI.out w).mono fun e w' ⟨h1, h2⟩ => ⟨by rw [h1]; simp [hmk], h2⟩
            clear hmk
            go_wp2_with fail
            refine (HI2.out _).mono ?_
            rintro e w' ⟨rfl, rfl⟩
            go_wp2
            go_ret
            exact ⟨by rw [HN.out]; rfl, HB2.out⟩
        · have hnx : ∀ ty, (Instr.next (.pointer (some ⟨w.heap.size, 0, none⟩)) true ty).run Try.prog wr = _ := fun ty => Lib.run_next_end_at wr w.heap.size s pos ty hit hlt
          have HE : Hid ((bl s).all isMk = true) := Lib.hid (by
            have := HA.out
            rwa [List.take_of_length_le (by rw [bl_len]; omega)] at this)
          go_wp2
          go_ret
          exact ⟨by rw [HE.out]; rfl, HB.out⟩

/-! ### The model's -/
theorem in_any (x a b : Int) (w : World) : Calls Try.prog 81 #[.int .i64 x, .int .i64 a, .int .i64 b] w fun e w' => e = .returned (.bool (decide (a ≤ x) && decide (x ≤ b))) ∧ w' = w := by
  by_cases h1 : a ≤ x
  · by_cases h2 : x ≤ b
    · have HD : Hid ((decide (a ≤ x) && decide (x ≤ b)) = true) := Lib.hid (by simp [h1, h2])
      rw [HD.out]
      go_enter Try.func81, Try.ntmps81
      go_wp2
      go_ret
      exact ⟨rfl, rfl⟩
    · have HD : Hid ((decide (a ≤ x) && decide (x ≤ b)) = false) := Lib.hid (by simp [h2])
      rw [HD.out]
      go_enter Try.func81, Try.ntmps81
      go_wp2
      go_ret
      exact ⟨rfl, rfl⟩
  · have HD : Hid ((decide (a ≤ x) && decide (x ≤ b)) = false) := Lib.hid (by simp [h1])
    rw [HD.out]
    go_enter Try.func81, Try.ntmps81
    go_wp2
    go_ret
    exact ⟨rfl, rfl⟩

theorem smarks_any (s : ByteArray) (w : World) (hs : s.size ≤ maxLen) :
    Calls Try.prog 70 #[.string s, .int .i64 1, .int .i64 5] w fun e w' => e = .returned (.bool (marksL (bl s))) ∧ ∃ q, w' = w.drewN q := by
  unfold maxLen at hs
  have HIn := Lib.hid fun w => in_any s.size 1 5 w
  go_enter Try.func70, Try.ntmps70
  go_wp2
  go_loopw [7] (fun v wr => ∃ (k q : Nat), v = .int .i64 k ∧ k ≤ s.size ∧ k ≤ 6 ∧ Hid (((bl s).take k).all isMk = true) ∧ wr = w.drewN q) (fun v _ => s.size - (intOf v).toNat)
  case atStart => exact ⟨0, 0, rfl, Nat.zero_le _, by omega, Lib.hid (by simp), rfl⟩
  case round =>
    obtain ⟨k, q, rfl, hk, hk6, HA, rfl⟩ := hrel
    by_cases hlt : k < s.size
    · by_cases h5 : k ≤ 5
      · have HBy := Lib.hid (bl_at s k hlt)
        by_cases hmk : isMk s[k] = true
        · have HN : Hid (((bl s).take (k + 1)).all isMk = true) := Lib.hid (by
            rw [List.take_add_one, HBy.out, List.all_append, HA.out]; simp [hmk])
          rw [mk_iff] at hmk
          simp only [decide_eq_true_eq] at hmk
          rcases hmk with hmk | hmk
          · have e1 : ((s[k].toNat : Int) == 46) = true := by simp; omega
            have e2 : ((s[k].toNat : Int) != 46) = false := by simp; omega
            clear hmk
            go_wp2
            go_roundw
            case rel => exact ⟨k + 1, q, by go_num, by omega, by omega, HN, rfl⟩
            case measure => simp [intOf]; omega
          · have e1 : ((s[k].toNat : Int) == 46) = false := beq_false_of_ne (by omega)
            have e2 : ((s[k].toNat : Int) != 46) = true := by rw [bne, e1]; rfl
            have e3 : ((s[k].toNat : Int) == 45) = true := by simp; omega
            have e4 : ((s[k].toNat : Int) != 45) = false := by rw [bne, e3]; rfl
            clear hmk
            go_wp2
            go_roundw
            case rel => exact ⟨k + 1, q, by go_num, by omega, by omega, HN, rfl⟩
            case measure => simp [intOf]; omega
        · have HF : Hid (marksL (bl s) = false) := Lib.hid (by
            rw [Bool.eq_false_iff]
            intro h
            exact hmk (List.all_eq_true.1 (marks_all h) _ (List.mem_of_getElem? HBy.out)))
          rw [mk_iff] at hmk
          simp only [decide_eq_true_eq, not_or] at hmk
          obtain ⟨m1, m2⟩ := hmk
          have e1 : ((s[k].toNat : Int) == 46) = false := beq_false_of_ne (by omega)
          have e2 : ((s[k].toNat : Int) != 46) = true := by rw [bne, e1]; rfl
          have e3 : ((s[k].toNat : Int) == 45) = false := beq_false_of_ne (by omega)
          have e4 : ((s[k].toNat : Int) != 45) = true := by rw [bne, e3]; rfl
          clear m1 m2
          go_wp2
          go_ret
          exact ⟨by rw [HF.out]; rfl, q, rfl⟩
      · have HF : Hid (marksL (bl s) = (decide ((1 : Int) ≤ (s.size : Int)) && decide ((s.size : Int) ≤ 5))) := Lib.hid (by
          have h1 : ¬ (s.size : Int) ≤ 5 := by omega
          have h2 : ¬ s.size ≤ 5 := by omega
          simp [marksL, bl_len, h1, h2])
        go_wp2_with fail
        refine (HIn.out _).mono ?_
        rintro e w' ⟨rfl, rfl⟩
        go_wp2
        go_ret
        exact ⟨by rw [HF.out]; rfl, q, rfl⟩
    · have HF : Hid (marksL (bl s) = (decide ((1 : Int) ≤ (s.size : Int)) && decide ((s.size : Int) ≤ 5))) := Lib.hid (by
        have h1 := HA.out
        rw [List.take_of_length_le (by rw [bl_len]; omega)] at h1
        simp only [marksL, bl_len, h1, Bool.and_true]
        congr 1
        · exact decide_eq_decide.2 (by omega)
        · exact decide_eq_decide.2 (by omega))
      go_wp2_with fail
      refine (HIn.out _).mono ?_
      rintro e w' ⟨rfl, rfl⟩
      go_wp2
      go_ret
      exact ⟨by rw [HF.out]; rfl, q, rfl⟩
end Go.Proofs.Ythkafalpjokfeaa
