/-
  IsBare, the program's and the model's: both answer alike. Used by the claims on chapter 3.
-/
import Derived.Test.YtekgmdigchobbaaSignW
import Derived.Test.YtekgmdigchobbaaWayL
namespace Go.Proofs.Ytekgmdigchobbaa
open Go.RowKit
set_option linter.unusedVariables false

theorem isBare_any (s : ByteArray) (w : World) (hs : s.size ≤ maxLen) :
    Calls Try.prog 42 #[.string s] w fun e w' => e = .returned (.bool (bareT s)) ∧ Below w.heap.size w w' := by
  unfold maxLen at hs
  by_cases hz : 40 < s.size
  · have HR : Hid (bareT s = false) := Lib.hid (by simp [bareT]; omega)
    rw [HR.out]
    go_enter Try.func42, Try.ntmps42
    go_wp2
    go_ret
    exact ⟨rfl, Below.refl _ _⟩
  · have HR : Hid (bareT s = (bl s).all isMk) := Lib.hid (by
      have h1 : s.size ≤ 40 := by omega
      simp [bareT, h1])
    rw [HR.out]
    go_enter Try.func42, Try.ntmps42
    go_wp2
    go_loopw [] (fun wr => ∃ pos, wr.heap[w.heap.size]? = some (.stringIter s pos) ∧ pos ≤ s.size ∧ Hid (Below w.heap.size w wr) ∧ Hid (((bl s).take pos).all isMk = true)) (fun wr => s.size - wr.iterPos w.heap.size)
    case atStart => exact ⟨0, World.iter_heap w s 0, Nat.zero_le _, (Below.refl _ _).alloc (Nat.le_refl _) _, Lib.hid (by simp)⟩
    case round =>
      obtain ⟨pos, hit, hp, HB, HA⟩ := hrel
      have HP := Lib.hid (iterPos_of hit)
      by_cases hlt : pos < s.size
      · obtain ⟨r, wd, hde, hr, hwd, hcase⟩ := sign_at s pos hlt
        have hnx : ∀ ty, (Instr.next (.pointer (some ⟨w.heap.size, 0, none⟩)) true ty).run Try.prog wr = _ := fun ty => Lib.run_next_any_at wr w.heap.size s pos ty hit hlt
        have hit2 := Lib.iterAt_heap wr w.heap.size s pos (pos + wd) hit
        have HB2 : Hid (Below w.heap.size w (wr.iterAt w.heap.size s (pos + wd))) := Lib.hid (Lib.below_iterAt HB.out (k := w.heap.size) (Nat.le_refl _) s (pos + wd))
        rw [hde] at hnx
        simp only at hnx
        have HI := Lib.hid fun w => isMark_at r hr w
        have HBy := Lib.hid (bl_at s pos hlt)
        have HC := Lib.hid hcase
        have HAll : Hid (r = 46 ∨ r = 45 → ((bl s).take (pos + wd)).all isMk = true ∧ pos + wd ≤ s.size) := fun h => by
          rcases hcase with ⟨_, h2, h3⟩ | ⟨h1, _⟩
          · subst h3
            refine ⟨?_, by omega⟩
            rw [List.take_add_one, HBy.out, List.all_append, HA.out]
            simp [mk_iff, ← h2, h]
          · omega
        have HNo : Hid (¬ (r = 46 ∨ r = 45) → (bl s).all isMk = false) := fun h => by
          rw [Bool.eq_false_iff]
          intro hall
          have := List.all_eq_true.1 hall _ (List.mem_of_getElem? HBy.out)
          rw [mk_iff] at this
          rcases hcase with ⟨_, h2, _⟩ | ⟨h1, h2⟩
          · rw [← h2] at this; exact h (by simpa using this)
          · simp at this; omega
        obtain ⟨W1, hW1⟩ : ∃ W1, W1 = wr.iterAt w.heap.size s (pos + wd) := ⟨_, rfl⟩
        rw [← hW1] at hnx hit2 HB2
        have HWd := Lib.hid hwd
        clear hW1 hit hde hcase hwd
        by_cases hmk : r = 46 ∨ r = 45
        · have HAl := Lib.hid (HAll.out hmk)
          have HI2 : Hid (∀ w, Calls Try.prog 98 #[.int .i32 r] w fun e w' => e = .returned (.bool true) ∧ w' = w) := Lib.hid fun w => (HI.out w).mono fun e w' ⟨h1, h2⟩ => ⟨by rw [h1]; simp [hmk], h2⟩
          clear hmk
          go_wp2_with fail
          refine (HI2.out _).mono ?_
          rintro e w' ⟨rfl, rfl⟩
          go_wp2
          go_roundw
          case rel => exact ⟨pos + wd, hit2, HAl.out.2, HB2, Lib.hid HAl.out.1⟩
          case measure => rw [iterPos_of hit2, HP.out]; have := HWd.out; omega
        · have HN := Lib.hid (HNo.out hmk)
          have HI2 : Hid (∀ w, Calls Try.prog 98 #[.int .i32 r] w fun e w' => e = .returned (.bool false) ∧ w' = w) := Lib.hid fun w => (HI.out w).mono fun e w' ⟨h1, h2⟩ => ⟨by rw [h1]; simp [hmk], h2⟩
          clear hmk
          go_wp2_with fail
          refine (HI2.out _).mono ?_
          rintro e w' ⟨rfl, rfl⟩
          go_wp2
          go_ret
          exact ⟨by rw [HN.out]; rfl, HB2.out⟩
      · have hnx : ∀ ty, (Instr.next (.pointer (some ⟨w.heap.size, 0, none⟩)) true ty).run Try.prog wr = _ := fun ty => Lib.run_next_end_at wr w.heap.size s pos ty hit hlt
        have HE : Hid ((bl s).all isMk = true) := Lib.hid (by
          have := HA.out
          rwa [List.take_of_length_le (by rw [bl_len]; omega)] at this)
        go_wp2
        go_ret
        exact ⟨by rw [HE.out]; rfl, HB.out⟩

/-! ### The model's -/
theorem sl3bare_loop (s : ByteArray) (w : World) (hs : s.size ≤ maxLen) :
    Calls Try.prog 86 #[.string s, .int .i64 0, .int .i64 40] w fun e w' => e = .returned (.bool (bareT s)) ∧ ∃ q, w' = w.drewN q := by
  unfold maxLen at hs
  have HIn := Lib.hid fun w => in_any s.size 0 40 w
  go_enter Try.func86, Try.ntmps86
  go_wp2
  go_loopw [7] (fun v wr => ∃ (k q : Nat), v = .int .i64 k ∧ k ≤ s.size ∧ k ≤ 41 ∧ Hid (((bl s).take k).all isMk = true) ∧ wr = w.drewN q) (fun v _ => s.size - (intOf v).toNat)
  case atStart => exact ⟨0, 0, rfl, Nat.zero_le _, by omega, Lib.hid (by simp), rfl⟩
  case round =>
    obtain ⟨k, q, rfl, hk, hk41, HA, rfl⟩ := hrel
    by_cases hlt : k < s.size
    · by_cases h5 : k ≤ 40
      · have HBy := Lib.hid (bl_at s k hlt)
        by_cases hmk : isMk s[k] = true
        · have HN : Hid (((bl s).take (k + 1)).all isMk = true) := Lib.hid (by
            rw [List.take_add_one, HBy.out, List.all_append, HA.out]; simp [hmk])
          rw [mk_iff] at hmk
          simp only [decide_eq_true_eq] at hmk
          rcases hmk with hmk | hmk
          · have e1 : ((s[k].toNat : Int) == 46) = true := by simp; omega
            have e2 : ((s[k].toNat : Int) != 46) = false := by simp; omega
            clear hmk
            go_wp2
            go_roundw
            case rel => exact ⟨k + 1, q, by go_num, by omega, by omega, HN, rfl⟩
            case measure => simp [intOf]; omega
          · have e1 : ((s[k].toNat : Int) == 46) = false := beq_false_of_ne (by omega)
            have e2 : ((s[k].toNat : Int) != 46) = true := by rw [bne, e1]; rfl
            have e3 : ((s[k].toNat : Int) == 45) = true := by simp; omega
            have e4 : ((s[k].toNat : Int) != 45) = false := by rw [bne, e3]; rfl
            clear hmk
            go_wp2
            go_roundw
            case rel => exact ⟨k + 1, q, by go_num, by omega, by omega, HN, rfl⟩
            case measure => simp [intOf]; omega
        · have HF : Hid (bareT s = false) := Lib.hid (by
            rw [Bool.eq_false_iff]
            intro h
            simp only [bareT, Bool.and_eq_true] at h
            exact hmk (List.all_eq_true.1 h.2 _ (List.mem_of_getElem? HBy.out)))
          rw [mk_iff] at hmk
          simp only [decide_eq_true_eq, not_or] at hmk
          obtain ⟨m1, m2⟩ := hmk
          have e1 : ((s[k].toNat : Int) == 46) = false := beq_false_of_ne (by omega)
          have e2 : ((s[k].toNat : Int) != 46) = true := by rw [bne, e1]; rfl
          have e3 : ((s[k].toNat : Int) == 45) = false := beq_false_of_ne (by omega)
          have e4 : ((s[k].toNat : Int) != 45) = true := by rw [bne, e3]; rfl
          clear m1 m2
          go_wp2
          go_ret
          exact ⟨by rw [HF.out]; rfl, q, rfl⟩
      · have HF : Hid (bareT s = (decide ((0 : Int) ≤ (s.size : Int)) && decide ((s.size : Int) ≤ 40))) := Lib.hid (by
          have h1 : ¬ (s.size : Int) ≤ 40 := by omega
          have h2 : ¬ s.size ≤ 40 := by omega
          simp [bareT, h1, h2])
        go_wp2_with fail
        refine (HIn.out _).mono ?_
        rintro e w' ⟨rfl, rfl⟩
        go_wp2
        go_ret
        exact ⟨by rw [HF.out]; rfl, q, rfl⟩
    · have HF : Hid (bareT s = (decide ((0 : Int) ≤ (s.size : Int)) && decide ((s.size : Int) ≤ 40))) := Lib.hid (by
        have h1 := HA.out
        rw [List.take_of_length_le (by rw [bl_len]; omega)] at h1
        have h2 : decide ((0 : Int) ≤ (s.size : Int)) = true := decide_eq_true (by omega)
        simp only [bareT, h1, Bool.and_true, h2, Bool.true_and]
        exact decide_eq_decide.2 (by omega))
      go_wp2_with fail
      refine (HIn.out _).mono ?_
      rintro e w' ⟨rfl, rfl⟩
      go_wp2
      go_ret
      exact ⟨by rw [HF.out]; rfl, q, rfl⟩
theorem sl3bare_any (s : ByteArray) (w : World) (hs : s.size ≤ maxLen) :
    Calls Try.prog 97 #[.string s] w fun e w' => e = .returned (.bool (bareT s)) ∧ Below w.heap.size w w' := by
  have F := Lib.hid fun w => sl3bare_loop s w hs
  unfold maxLen at hs
  go_enter Try.func97, Try.ntmps97
  go_wp2_with fail
  refine (F.out _).mono ?_
  rintro e w' ⟨rfl, q, rfl⟩
  go_wp2
  go_ret
  exact ⟨rfl, below_drewN _ _⟩
theorem sIsBare_any (s : ByteArray) (w : World) (hs : s.size ≤ maxLen) :
    Calls Try.prog 41 #[.string s] w fun e w' => e = .returned (.bool (bareT s)) ∧ Below w.heap.size w w' := by
  have F := Lib.hid fun w => sl3bare_any s w hs
  unfold maxLen at hs
  go_enter Try.func41, Try.ntmps41
  go_wp2_with fail
  refine (F.out _).mono ?_
  rintro e w' ⟨rfl, hb⟩
  have HB := Lib.hid hb
  clear hb
  go_wp2
  go_ret
  exact ⟨rfl, HB.out⟩
theorem isBare_both (s : ByteArray) (hs : s.size ≤ 1048576) : ∃ R0 : Bool,
    Hid (∀ W, Calls Try.prog 41 #[.string s] W fun e W' => e = .returned (.bool R0) ∧ Below W.heap.size W W') ∧
    Hid (∀ W, Calls Try.prog 42 #[.string s] W fun e W' => e = .returned (.bool R0) ∧ Below W.heap.size W W') :=
  ⟨_, fun W => sIsBare_any s W (by unfold maxLen; omega), fun W => isBare_any s W (by unfold maxLen; omega)⟩
end Go.Proofs.Ytekgmdigchobbaa
