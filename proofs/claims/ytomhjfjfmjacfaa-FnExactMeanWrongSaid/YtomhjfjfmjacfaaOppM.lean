/-
  Contract of the program's oppositeMarks: turned marks. Used by the claims on chapter 2.
-/
import Derived.Test.YtomhjfjfmjacfaaDecW
import Derived.Test.YtomhjfjfmjacfaaTurnS
namespace Go.Proofs.Ytomhjfjfmjacfaa
open Go.RowKit
set_option linter.unusedVariables false

set_option maxHeartbeats 4000000 in
set_option maxRecDepth 20000 in
theorem oppositeMarks_any (s : ByteArray) (w : World) (hm : marksL (bl s) = true) :
    Calls Try.prog 101 #[.string s] w fun e w' => e = .returned (.string (ba (oppL (bl s)))) ∧ Below w.heap.size w w' := by
  obtain ⟨i0, hi, hz0, hz1, hz2⟩ := info_parts infoByte
  have hs : s.size ≤ 5 := by
    have := hm
    simp only [marksL, Bool.and_eq_true, decide_eq_true_eq, bl_len] at this
    exact this.1.2
  have HM := Lib.hid hm
  have hm0 : (w.alloc (Obj.cells #[] 5)).ownsRow w.heap.size 5 1 (.slice (some ⟨w.heap.size, 0, none⟩) 0 0) 0 (bys []) := World.ownsRow_made w #[] 0 (Nat.le_refl _) (by unfold maxLen; omega) rfl
  have M0 := Lib.hid hm0
  have B0 := Lib.hid (below_alloc w (Obj.cells #[] 5))
  clear hm hm0
  go_enter Try.func101, Try.ntmps101
  go_wp2
  go_loopw [3] (fun vm wr => ∃ (pos gm capm : Nat) (m : Bs), wr.heap[w.heap.size + 1]? = some (.stringIter s pos) ∧ pos ≤ s.size ∧ vm = .slice (some ⟨gm, 0, none⟩) m.length capm ∧ m.length = pos ∧ wr.ownsRow w.heap.size 5 1 (.slice (some ⟨gm, 0, none⟩) m.length capm) m.length (bys m) ∧ Below w.heap.size w wr ∧ Hid (m = oppL ((bl s).take pos))) (fun _ wr => s.size - wr.iterPos (w.heap.size + 1))
  case atStart =>
    refine ⟨0, w.heap.size, 0, [], ?_, Nat.zero_le _, rfl, rfl, M0.out.alloc _, B0.out.alloc B0.out.size _, Lib.hid (by simp [oppL])⟩
    have := World.iter_heap (w.alloc (Obj.cells #[] 5)) s 0
    simpa using this
  case round =>
    obtain ⟨pos, gm, capm, m, hit, hp, rfl, hmk, hown, hB, HD⟩ := hrel
    have HP := Lib.hid (iterPos_of hit)
    by_cases hlt : pos < s.size
    · obtain ⟨r, wd, hde, hr, hwd, hcase⟩ := sign_at s pos hlt
      have hnx : ∀ ty, (Instr.next (.pointer (some ⟨w.heap.size + 1, 0, none⟩)) true ty).run Try.prog wr = _ := fun ty => Lib.run_next_any_at wr (w.heap.size + 1) s pos ty hit hlt
      have hit2 := Lib.iterAt_heap wr (w.heap.size + 1) s pos (pos + wd) hit
      have hown2 := row_iter hown hit (pos + wd)
      have hB2 : Below w.heap.size w (wr.iterAt (w.heap.size + 1) s (pos + wd)) := Lib.below_iterAt hB (k := w.heap.size + 1) (by omega) s (pos + wd)
      rw [hde] at hnx
      simp only at hnx
      have hsg : isMk s[pos] = true := List.all_eq_true.1 (marks_all HM.out) _ (List.mem_of_getElem? (bl_at s pos hlt))
      have hsg2 : (s[pos]).toNat = 46 ∨ (s[pos]).toNat = 45 := by rw [mk_iff] at hsg; simpa using hsg
      obtain ⟨hr2, rfl⟩ : r = (s[pos]).toNat ∧ wd = 1 := by
        rcases hcase with ⟨_, h2, h3⟩ | ⟨_, h2⟩
        · exact ⟨h2, h3⟩
        · omega
      have HN : Hid (m ++ [oppC s[pos]] = oppL ((bl s).take (pos + 1))) := Lib.hid (by rw [List.take_add_one, bl_at s pos hlt, HD.out]; simp [oppL])
      obtain ⟨W1, hW1⟩ : ∃ W1, W1 = wr.iterAt (w.heap.size + 1) s (pos + 1) := ⟨_, rfl⟩
      rw [← hW1] at hnx hit2 hown2 hB2
      clear hW1 hit hde hcase hwd hown hB hsg
      by_cases hd : r = 46
      · subst hd
        have HC : Hid (oppC s[pos] = 45) := Lib.hid (by unfold oppC; rw [if_pos]; apply UInt8.toNat_inj.1; rw [← hr2]; rfl)
        clear hsg2 hr2 hr
        go_wp2_with (at_builtin; refine wpList_append_own _ rfl _ _ 61 rfl w.heap.size 5 i0 (.int .u8 0) 1 1 Try.underlying61 hi hz0 hz1 hz2 rfl (by decide) _ _ _ rfl (hown2.alloc _) ⟨W1.heap.size, 0, none⟩ 1 1 [.int .u8 45] rfl rfl (cell_one_new _ _ _) (by simp [Value.oneCell']) (by unfold maxLen; omega) (by omega) (by have := hB2.size; simp; omega) ?_; intro v' w4 hown' hgrow _)
        have hown4 : w4.ownsRow w.heap.size 5 1 v' (m ++ [oppC s[pos]]).length (bys (m ++ [oppC s[pos]])) := by rw [bys_snoc, HC.out]; simpa using hown'
        obtain ⟨g4, cap4, rfl⟩ : ∃ g cap, v' = .slice (some ⟨g, 0, none⟩) (m ++ [oppC s[pos]]).length cap := by
          rcases hown4.2 with ⟨_, h1⟩ | ⟨g, cap, _, rfl, _⟩
          · simp at h1
          · exact ⟨g, cap, rfl⟩
        have hit4 := iter_grown hown2 hit2 hgrow
        have H4 := Lib.hid hown4
        have HB4 := Lib.hid ((hB2.alloc hB2.size _).grown hgrow (by have := hB2.size; simp; omega) (fun j e => (hown2.lt j e).1))
        clear hown' hgrow hown4 hown2 hB2 hit2
        all_goals (
          go_wp2
          go_roundw
          case rel => exact ⟨pos + 1, g4, cap4, m ++ [oppC s[pos]], hit4, by omega, by simp, by simp [hmk], H4.out, HB4.out, HN⟩
          case measure => rw [iterPos_of hit4, HP.out]; omega)
      · have h45 : r = 45 := by omega
        subst h45
        have HC : Hid (oppC s[pos] = 46) := Lib.hid (by unfold oppC; rw [if_neg]; intro e; rw [e] at hr2; exact absurd hr2 (by decide))
        clear hsg2 hr2 hr hd
        go_wp2_with (at_builtin; refine wpList_append_own _ rfl _ _ 61 rfl w.heap.size 5 i0 (.int .u8 0) 1 1 Try.underlying61 hi hz0 hz1 hz2 rfl (by decide) _ _ _ rfl (hown2.alloc _) ⟨W1.heap.size, 0, none⟩ 1 1 [.int .u8 46] rfl rfl (cell_one_new _ _ _) (by simp [Value.oneCell']) (by unfold maxLen; omega) (by omega) (by have := hB2.size; simp; omega) ?_; intro v' w4 hown' hgrow _)
        have hown4 : w4.ownsRow w.heap.size 5 1 v' (m ++ [oppC s[pos]]).length (bys (m ++ [oppC s[pos]])) := by rw [bys_snoc, HC.out]; simpa using hown'
        obtain ⟨g4, cap4, rfl⟩ : ∃ g cap, v' = .slice (some ⟨g, 0, none⟩) (m ++ [oppC s[pos]]).length cap := by
          rcases hown4.2 with ⟨_, h1⟩ | ⟨g, cap, _, rfl, _⟩
          · simp at h1
          · exact ⟨g, cap, rfl⟩
        have hit4 := iter_grown hown2 hit2 hgrow
        have H4 := Lib.hid hown4
        have HB4 := Lib.hid ((hB2.alloc hB2.size _).grown hgrow (by have := hB2.size; simp; omega) (fun j e => (hown2.lt j e).1))
        clear hown' hgrow hown4 hown2 hB2 hit2
        all_goals (
          go_wp2
          go_roundw
          case rel => exact ⟨pos + 1, g4, cap4, m ++ [oppC s[pos]], hit4, by omega, by simp, by simp [hmk], H4.out, HB4.out, HN⟩
          case measure => rw [iterPos_of hit4, HP.out]; omega)
    · have hnx : ∀ ty, (Instr.next (.pointer (some ⟨w.heap.size + 1, 0, none⟩)) true ty).run Try.prog wr = _ := fun ty => Lib.run_next_end_at wr (w.heap.size + 1) s pos ty hit hlt
      have HE : Hid (m = oppL (bl s)) := Lib.hid (by
        have h1 := HD.out
        rwa [List.take_of_length_le (by rw [bl_len]; omega)] at h1)
      have hcv := conv_bytes wr gm capm m hown
      rw [hmk] at hcv
      go_wp2
      go_ret
      exact ⟨by rw [← HE.out]; rfl, hB⟩
end Go.Proofs.Ytomhjfjfmjacfaa
