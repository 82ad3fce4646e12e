/-
  Contracts of isLetterOf, isMessageOf, IsMessage (the program's) and of l2Message, IsMessage (the model's). Used by the claims on chapter 2.
-/
import Derived.Test.YtdphjnbelggcfaaIsTableB
import Derived.Test.YtdphjnbelggcfaaShelf
namespace Go.Proofs.Ytdphjnbelggcfaa
open Go.RowKit
set_option linter.unusedVariables false

theorem msgGo_last (n : Nat) (l : Bs) : ∀ b, msgGo n b (l ++ [32]) = false := by
  induction l with
  | nil => intro b; simp [msgGo]
  | cons c l ih =>
    intro b
    rw [List.cons_append, msgGo]
    split <;> simp [ih]
theorem hasSpace (l : Bs) : Lib.hasSuffix l [32] = true ↔ ∃ k, l = k ++ [32] := by
  unfold Lib.hasSuffix
  first
    | (rw [List.isSuffixOf_iff_suffix]; exact ⟨fun ⟨k, e⟩ => ⟨k, e.symm⟩, fun ⟨k, e⟩ => ⟨k, e.symm⟩⟩)
    | (simp only [decide_eq_true_eq]; exact ⟨fun ⟨k, e⟩ => ⟨k, e.symm⟩, fun ⟨k, e⟩ => ⟨k, e.symm⟩⟩)

theorem isLetter_at (n r : Nat) (hn : n ≤ 1048576) (hr : r ≤ 2147483647) (w : World) : Calls Try.prog 149 #[.int .i64 n, .int .i32 r] w fun e w' => e = .returned (.bool (decide (97 ≤ r) && decide (r < 97 + n))) ∧ w' = w := by
  by_cases h1 : 97 ≤ r
  · by_cases h2 : r < 97 + n
    · have HD : Hid ((decide (97 ≤ r) && decide (r < 97 + n)) = true) := Lib.hid (by simp [h1, h2])
      have e1 : (97 : Int) ≤ (r : Int) := by omega
      have e2 : (r : Int) < 97 + (n : Int) := by omega
      rw [HD.out]
      go_enter Try.func149, Try.ntmps149
      go_wp2
      go_ret
      exact ⟨rfl, rfl⟩
    · have HD : Hid ((decide (97 ≤ r) && decide (r < 97 + n)) = false) := Lib.hid (by simp [h2])
      have e1 : (97 : Int) ≤ (r : Int) := by omega
      have e2 : ¬ (r : Int) < 97 + (n : Int) := by omega
      rw [HD.out]
      go_enter Try.func149, Try.ntmps149
      go_wp2
      go_ret
      exact ⟨rfl, rfl⟩
  · have HD : Hid ((decide (97 ≤ r) && decide (r < 97 + n)) = false) := Lib.hid (by simp [h1])
    have e1 : ¬ (97 : Int) ≤ (r : Int) := by omega
    rw [HD.out]
    go_enter Try.func149, Try.ntmps149
    go_wp2
    go_ret
    exact ⟨rfl, rfl⟩

theorem drop_at (s : ByteArray) (k : Nat) (h : k < s.size) : (bl s).drop k = s[k] :: (bl s).drop (k + 1) := by
  have h2 : k < (bl s).length := by rw [bl_len]; exact h
  rw [List.drop_eq_getElem_cons h2]
  have := bl_at s k h
  rw [List.getElem?_eq_getElem h2] at this
  rw [Option.some.inj this]
theorem u8_eq {c : UInt8} {k : Nat} (h : c.toNat = k) (hk : k < 256) : c = UInt8.ofNat k := by
  apply UInt8.toNat_inj.1
  rw [UInt8.toNat_ofNat', h, Nat.mod_eq_of_lt hk]
theorem inRow_iff (n : Nat) (c : UInt8) : inRow n c = (decide (97 ≤ c.toNat) && decide (c.toNat < 97 + n)) := rfl

/-- The program's isMessageOf. -/
theorem isMsgOf_any (n : Nat) (m : ByteArray) (hn : n ≤ 10) (w : World) (hs : m.size ≤ maxLen) :
    Calls Try.prog 124 #[.int .i64 n, .string m] w fun e w' => e = .returned (.bool (msgL n (bl m))) ∧ Below w.heap.size w w' := by
  unfold maxLen at hs
  have HSf := Lib.hid fun w => Try.strings_HasSuffix m ⟨#[32]⟩ w hs
  by_cases hz : 12 < m.size
  · have HR : Hid (msgL n (bl m) = false) := Lib.hid (by simp [msgL, bl_len]; omega)
    rw [HR.out]
    go_enter Try.func124, Try.ntmps124
    go_wp2
    go_ret
    exact ⟨rfl, Below.refl _ _⟩
  · by_cases hsp : Lib.hasSuffix (bl m) [32] = true
    · have HR : Hid (msgL n (bl m) = false) := Lib.hid (by
        obtain ⟨k, e⟩ := (hasSpace _).1 hsp
        simp [msgL, e, msgGo_last])
      have HS2 := Lib.hid fun w => val_eq (v' := .bool true) (HSf.out w) (by rw [← hsp]; rfl)
      clear hsp
      rw [HR.out]
      go_enter Try.func124, Try.ntmps124
      go_wp2_with fail
      refine (HS2.out _).mono ?_
      rintro e w' ⟨rfl, rfl⟩
      go_wp2
      go_ret
      exact ⟨rfl, Below.refl _ _⟩
    · have hsp2 : Lib.hasSuffix (bl m) [32] = false := by simpa using hsp
      have HNS : Hid (¬ ∃ k, bl m = k ++ [32]) := Lib.hid (fun h => hsp ((hasSpace _).2 h))
      have HS2 := Lib.hid fun w => val_eq (v' := .bool false) (HSf.out w) (by rw [← hsp2]; rfl)
      clear hsp hsp2
      have HR : Hid (msgL n (bl m) = ((bl m).isEmpty || msgGo n true (bl m))) := Lib.hid (by
        have : m.size ≤ 12 := by omega
        simp [msgL, bl_len, this])
      go_enter Try.func124, Try.ntmps124
      go_wp2_with fail
      refine (HS2.out _).mono ?_
      rintro e w' ⟨rfl, hww⟩
      obtain rfl := hww.symm
      go_wp2
      go_loopw [5] (fun v wr => ∃ (pos bf : Nat) (b : Bool), v = .int .i32 bf ∧ bf ≤ 2147483647 ∧ wr.heap[w.heap.size]? = some (.stringIter m pos) ∧ pos ≤ m.size ∧ Hid (Below w.heap.size w wr) ∧ Hid ((bf = 32 ↔ b = true) ∧ msgGo n b ((bl m).drop pos) = msgGo n true (bl m) ∧ (b = true → pos = 0 ∨ (bl m)[pos - 1]? = some 32))) (fun _ wr => m.size - wr.iterPos w.heap.size)
      case atStart => exact ⟨0, 32, true, rfl, by omega, World.iter_heap w m 0, Nat.zero_le _, (Below.refl _ _).alloc (Nat.le_refl _) _, Lib.hid ⟨by simp, by simp, fun _ => .inl rfl⟩⟩
      case round =>
        obtain ⟨pos, bf, b, rfl, hbf, hit, hp, HB, HG⟩ := hrel
        have HP := Lib.hid (iterPos_of hit)
        by_cases hlt : pos < m.size
        · obtain ⟨r, wd, hde, hr, hwd, hcase⟩ := sign_at m pos hlt
          have hnx : ∀ ty, (Instr.next (.pointer (some ⟨w.heap.size, 0, none⟩)) true ty).run Try.prog wr = _ := fun ty => Lib.run_next_any_at wr w.heap.size m pos ty hit hlt
          have hit2 := Lib.iterAt_heap wr w.heap.size m pos (pos + wd) hit
          have HB2 : Hid (Below w.heap.size w (wr.iterAt w.heap.size m (pos + wd))) := Lib.hid (Lib.below_iterAt HB.out (k := w.heap.size) (Nat.le_refl _) m (pos + wd))
          rw [hde] at hnx
          simp only at hnx
          have HI := Lib.hid fun w => isLetter_at n r (by omega) hr w
          have HBy := Lib.hid (bl_at m pos hlt)
          have HDr := Lib.hid (drop_at m pos hlt)
          have HC := Lib.hid hcase
          obtain ⟨W1, hW1⟩ : ∃ W1, W1 = wr.iterAt w.heap.size m (pos + wd) := ⟨_, rfl⟩
          rw [← hW1] at hnx hit2 HB2
          have HWd := Lib.hid hwd
          have HHt := Lib.hid hlt
          have hposlt : pos < m.size := hlt
          clear hW1 hit hde hcase hwd
          by_cases h32 : r = 32
          · subst h32
            have HC2 : Hid (m[pos] = 32 ∧ wd = 1) := Lib.hid (by
              rcases HC.out with ⟨_, h2, h3⟩ | ⟨h1, _⟩
              · exact ⟨u8_eq (k := 32) h2.symm (by decide), h3⟩
              · omega)
            by_cases hb32 : bf = 32
            · subst hb32
              have HF : Hid (((bl m).isEmpty || msgGo n true (bl m)) = false) := Lib.hid (by
                have h1 := HG.out.1.1 rfl
                have h2 := HG.out.2.1
                rw [h1, HDr.out, HC2.out.1, msgGo_space] at h2
                simp only [Bool.not_true, Bool.false_and] at h2
                rw [← h2]
                have := bl_len m
                cases hm : bl m with
                | nil => rw [hm] at this; simp at this; omega
                | cons _ _ => rfl)
              go_wp2
              go_ret
              exact ⟨by rw [HR.out, HF.out]; rfl, HB2.out⟩
            · have hne : ((bf : Int) == 32) = false := beq_false_of_ne (by omega)
              have HN : Hid ((32 = 32 ↔ true = true) ∧ msgGo n true ((bl m).drop (pos + wd)) = msgGo n true (bl m) ∧ (true = true → pos + wd = 0 ∨ (bl m)[pos + wd - 1]? = some 32)) := Lib.hid (by
                have h1 : b = false := by
                  cases hb : b with
                  | false => rfl
                  | true => exact absurd (HG.out.1.2 hb) hb32
                have h2 := HG.out.2.1
                rw [h1, HDr.out, HC2.out.1, msgGo_space] at h2
                simp only [Bool.not_false, Bool.true_and] at h2
                have h3 := HBy.out
                rw [HC2.out.1] at h3
                rw [HC2.out.2]
                exact ⟨by simp, h2, fun _ => .inr (by simpa using h3)⟩)
              have HPos : Hid (pos + wd ≤ m.size) := Lib.hid (by have := HC2.out.2; have := HHt.out; omega)
              clear hb32
              go_wp2
              go_roundw
              case rel => exact ⟨pos + wd, 32, true, rfl, by omega, hit2, HPos.out, HB2, HN⟩
              case measure => rw [iterPos_of hit2, HP.out]; have := HWd.out; omega
          · have hne : ((r : Int) == 32) = false := beq_false_of_ne (by omega)
            have hne2 : ((r : Int) != 32) = true := by rw [bne, hne]; rfl
            have HNe := Lib.hid h32
            clear h32
            by_cases hrow : 97 ≤ r ∧ r < 97 + n
            · have HI2 := Lib.hid fun w => val_eq (v' := .bool true) (HI.out w) (by simp [hrow])
              have HC2 : Hid (m[pos] ≠ 32 ∧ inRow n m[pos] = true ∧ wd = 1) := Lib.hid (by
                rcases HC.out with ⟨_, h2, h3⟩ | ⟨h1, _⟩
                · refine ⟨fun e => ?_, ?_, h3⟩
                  · rw [e] at h2; exact HNe.out h2
                  · rw [inRow_iff, ← h2]; simp [hrow]
                · omega)
              have HN : Hid ((r = 32 ↔ false = true) ∧ msgGo n false ((bl m).drop (pos + wd)) = msgGo n true (bl m) ∧ (false = true → pos + wd = 0 ∨ (bl m)[pos + wd - 1]? = some 32)) := Lib.hid (by
                have h2 := HG.out.2.1
                rw [HDr.out, msgGo_row HC2.out.1, HC2.out.2.1, Bool.true_and] at h2
                rw [HC2.out.2.2]
                exact ⟨by simp [HNe.out], h2, by simp⟩)
              have HPos : Hid (pos + wd ≤ m.size) := Lib.hid (by have := HC2.out.2.2; have := HHt.out; omega)
              clear hrow
              go_wp2_with fail
              refine (HI2.out _).mono ?_
              rintro e w' ⟨rfl, rfl⟩
              go_wp2
              go_roundw
              case rel => exact ⟨pos + wd, r, false, rfl, by omega, hit2, HPos.out, HB2, HN⟩
              case measure => rw [iterPos_of hit2, HP.out]; have := HWd.out; omega
            · have HI2 := Lib.hid fun w => val_eq (v' := .bool false) (HI.out w) (by congr 1; rw [Bool.and_eq_false_iff]; simp only [decide_eq_false_iff_not]; omega)
              have HF : Hid (((bl m).isEmpty || msgGo n true (bl m)) = false) := Lib.hid (by
                have h2 := HG.out.2.1
                have h3 : m[pos] ≠ 32 ∧ inRow n m[pos] = false := by
                  rcases HC.out with ⟨_, h2, h3⟩ | ⟨h1, h4⟩
                  · refine ⟨fun e => ?_, ?_⟩
                    · rw [e] at h2; exact HNe.out h2
                    · rw [inRow_iff, ← h2, Bool.and_eq_false_iff]; simp only [decide_eq_false_iff_not]; omega
                  · refine ⟨fun e => ?_, ?_⟩
                    · rw [e] at h4; exact absurd h4 (by decide)
                    · rw [inRow_iff, Bool.and_eq_false_iff]; simp only [decide_eq_false_iff_not]; omega
                rw [HDr.out, msgGo_row h3.1, h3.2, Bool.false_and] at h2
                rw [← h2]
                have := bl_len m
                cases hm : bl m with
                | nil => rw [hm] at this; simp at this; omega
                | cons _ _ => rfl)
              clear hrow
              go_wp2_with fail
              refine (HI2.out _).mono ?_
              rintro e w' ⟨rfl, rfl⟩
              go_wp2
              go_ret
              exact ⟨by rw [HR.out, HF.out]; rfl, HB2.out⟩
        · have hnx : ∀ ty, (Instr.next (.pointer (some ⟨w.heap.size, 0, none⟩)) true ty).run Try.prog wr = _ := fun ty => Lib.run_next_end_at wr w.heap.size m pos ty hit hlt
          have HE : Hid (((bl m).isEmpty || msgGo n true (bl m)) = true) := Lib.hid (by
            obtain ⟨h1, h2, h3⟩ := HG.out
            rw [List.drop_of_length_le (by rw [bl_len]; omega)] at h2
            cases hb : b with
            | false => rw [← h2, hb]; simp [msgGo]
            | true =>
              rcases h3 hb with h4 | h4
              · have h5 : (bl m).length = 0 := by rw [bl_len]; omega
                rw [List.length_eq_zero_iff.1 h5]; rfl
              · exfalso
                have h5 : (bl m).length = m.size := bl_len m
                have h6 : pos - 1 < (bl m).length := (List.getElem?_eq_some_iff.1 h4).1
                have hpm : pos = m.size := by omega
                apply HNS.out
                refine ⟨(bl m).take (pos - 1), ?_⟩
                have h7 := List.take_append_drop (pos - 1) (bl m)
                rw [List.drop_eq_getElem_cons h6, (List.getElem?_eq_some_iff.1 h4).2, List.drop_of_length_le (by omega)] at h7
                exact h7.symm)
          go_wp2
          go_ret
          exact ⟨by rw [HR.out, HE.out]; rfl, HB.out⟩
end Go.Proofs.Ytdphjnbelggcfaa
