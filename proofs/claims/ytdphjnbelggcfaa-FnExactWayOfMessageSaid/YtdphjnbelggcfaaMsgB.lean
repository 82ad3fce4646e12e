/-
  IsMessage, the program's and the model's: both answer alike. Used by the claims on chapter 2.
-/
import Derived.Test.YtdphjnbelggcfaaMsgW
namespace Go.Proofs.Ytdphjnbelggcfaa
open Go.RowKit
set_option linter.unusedVariables false

theorem isMessage_any (a : Option Addr) (b o c : Nat) (xs : List ByteArray) (m : ByteArray) (w : World) (h : ListIn w a b o xs) (hm : m.size ≤ maxLen) :
    Calls Try.prog 91 #[.agg #[.slice a xs.length c], .string m] w fun e w' => e = .returned (.tuple #[.bool (tableB xs && msgL xs.length (bl m)), .bool (tableB xs)]) ∧ Below w.heap.size w w' := by
  have hl := h.len
  have F := Lib.hid fun ob => isTable_any a b o c xs (w.alloc ob) (h.below (below_alloc w ob))
  clear h
  by_cases ht : tableB xs = true
  · have hn : xs.length ≤ 10 := ((tableB_iff xs).1 ht).1.2
    have G := Lib.hid fun w => isMsgOf_any xs.length m hn w hm
    have F2 := Lib.hid fun ob => val_eq (v' := .bool true) (F.out ob) (by rw [ht])
    have HT := Lib.hid ht
    clear ht F
    go_enter Try.func91, Try.ntmps91
    go_wp2_with fail
    refine (F2.out _).mono ?_
    rintro e w1 ⟨rfl, hb⟩
    have hc1 : w1.cell? ⟨w.heap.size, 0, none⟩ = some (.slice a xs.length c) := (hb.cell (p := ⟨w.heap.size, 0, none⟩) (by simp)).trans (cell_new _ _ _)
    have HB := Lib.hid ((below_alloc w (.cells #[.slice a xs.length c] 35)).trans (hb.mono (by simp)))
    clear hb
    go_wp2_with fail
    refine (G.out _).mono ?_
    rintro e w2 ⟨rfl, hb⟩
    have HB2 := Lib.hid (HB.out.trans (hb.mono HB.out.size))
    clear hb
    go_wp2
    go_ret2
    exact ⟨by rw [HT.out]; rfl, HB2.out⟩
  · have F2 := Lib.hid fun ob => val_eq (v' := .bool false) (F.out ob) (by simp [ht])
    have HT : Hid (tableB xs = false) := Lib.hid (by simpa using ht)
    clear ht F
    go_enter Try.func91, Try.ntmps91
    go_wp2_with fail
    refine (F2.out _).mono ?_
    rintro e w1 ⟨rfl, hb⟩
    have HB := Lib.hid ((below_alloc w (.cells #[.slice a xs.length c] 35)).trans (hb.mono (by simp)))
    clear hb
    go_wp2
    go_ret2
    exact ⟨by rw [HT.out]; rfl, HB.out⟩

/-! ### The model's -/
theorem isEmpty_false {m : ByteArray} {k : Nat} (h : k < m.size) : (bl m).isEmpty = false := by
  have := bl_len m
  cases hm : bl m with
  | nil => rw [hm] at this; simp at this; omega
  | cons _ _ => rfl

set_option maxHeartbeats 4000000 in
set_option maxRecDepth 4000 in
theorem sMsg_any (a : Option Addr) (b o c : Nat) (xs : List ByteArray) (m : ByteArray) (w : World) (h1n : 1 ≤ xs.length) (hln : xs.length ≤ 10) (hs : m.size ≤ maxLen) :
    Calls Try.prog 90 #[.agg #[.slice a xs.length c], .string m] w fun e w' => e = .returned (.bool (msgL xs.length (bl m))) ∧ Below w.heap.size w w' := by
  unfold maxLen at hs
  by_cases hz : 12 < m.size
  · have HR : Hid (msgL xs.length (bl m) = false) := Lib.hid (by simp [msgL, bl_len]; omega)
    rw [HR.out]
    go_enter Try.func90, Try.ntmps90
    go_wp2
    go_ret
    exact ⟨rfl, below_alloc _ _⟩
  · have HR : Hid (msgL xs.length (bl m) = ((bl m).isEmpty || msgGo xs.length true (bl m))) := Lib.hid (by
      have : m.size ≤ 12 := by omega
      simp [msgL, bl_len, this])
    go_enter Try.func90, Try.ntmps90
    go_wp2
    have hb0 := below_alloc w (.cells #[.slice a xs.length c] 35)
    have hc0 := cell_new w (.slice a xs.length c) 35
    generalize (w.alloc (.cells #[.slice a xs.length c] 35)) = W0 at hb0 hc0 ⊢
    have HB0 := Lib.hid hb0
    have HC0 := Lib.hid hc0
    clear hb0 hc0
    go_loopw [5] (fun v wr => ∃ (k : Nat) (b : Bool), v = .int .i64 k ∧ k ≤ m.size ∧ Hid (∃ q, wr = W0.drewN q) ∧ Hid ((b = true ↔ k = 0 ∨ (bl m)[k - 1]? = some 32) ∧ msgGo xs.length b ((bl m).drop k) = msgGo xs.length true (bl m) ∧ (k = m.size → 0 < k → b = false))) (fun v _ => m.size - (intOf v).toNat)
    case atStart => exact ⟨0, true, rfl, Nat.zero_le _, Lib.hid ⟨0, rfl⟩, Lib.hid ⟨by simp, by simp, by omega⟩⟩
    case round =>
      obtain ⟨k, bq, rfl, hk, HW, HG⟩ := hrel
      have hc1 : wr.cell? ⟨w.heap.size, 0, none⟩ = some (.slice a xs.length c) := by obtain ⟨q, rfl⟩ := HW.out; exact HC0.out
      have HBw : Hid (Below w.heap.size w wr) := Lib.hid (by obtain ⟨q, rfl⟩ := HW.out; exact HB0.out.trans ⟨rfl, rfl, rfl, Nat.le_refl _, fun _ _ => rfl⟩)
      by_cases hlt : k < m.size
      · have HBy := Lib.hid (bl_at m k hlt)
        have HDr := Lib.hid (drop_at m k hlt)
        have HE := Lib.hid (isEmpty_false hlt)
        by_cases hc : m[k] = 32
        · have heq : ((m[k].toNat : Int) == 32) = true := by rw [hc]; rfl
          have hfalse : bq = true ∨ k + 1 = m.size → ((bl m).isEmpty || msgGo xs.length true (bl m)) = false := fun hh => by
            rw [HE.out, Bool.false_or, ← HG.out.2.1, HDr.out, hc, msgGo_space]
            rcases hh with hh | hh
            · rw [hh]; rfl
            · rw [List.drop_of_length_le (by rw [bl_len]; omega)]; simp [msgGo]
          have HF := Lib.hid hfalse
          have HBc : Hid ((bl m)[k]? = some 32) := Lib.hid (by rw [HBy.out, hc])
          have HDc : Hid ((bl m).drop k = 32 :: (bl m).drop (k + 1)) := Lib.hid (by rw [HDr.out, hc])
          clear hc hfalse
          by_cases hk0 : k = 0
          · subst hk0
            have HR2 := Lib.hid (HF.out (.inl (HG.out.1.2 (.inl rfl))))
            have heq0 : ((m[0].toNat : Int) == 32) = true := heq
            go_wp2
            go_ret
            exact ⟨by rw [HR.out, HR2.out]; rfl, HBw.out⟩
          · obtain ⟨j, rfl⟩ : ∃ j, k = j + 1 := ⟨k - 1, by omega⟩
            clear hk0
            by_cases hkl : j + 1 + 1 = m.size
            · have HR2 := Lib.hid (HF.out (.inr hkl))
              have e0 : (((j + 1 : Nat) : Int) == 0) = false := beq_false_of_ne (by omega)
              have e1 : (((j + 1 : Nat) : Int) == (m.size : Int) - 1) = true := by simp; omega
              have e2 : (((j : Int) + 1) == (m.size : Int) - 1) = true := by simp; omega
              have e3 : (((j : Int) + 1) == 0) = false := beq_false_of_ne (by omega)
              clear hkl
              go_wp2
              go_ret
              exact ⟨by rw [HR.out, HR2.out]; rfl, HBw.out⟩
            · have e0 : (((j + 1 : Nat) : Int) == 0) = false := beq_false_of_ne (by omega)
              have e1 : (((j + 1 : Nat) : Int) == (m.size : Int) - 1) = false := beq_false_of_ne (by omega)
              have e2 : (((j : Int) + 1) == (m.size : Int) - 1) = false := beq_false_of_ne (by omega)
              have e3 : (((j : Int) + 1) == 0) = false := beq_false_of_ne (by omega)
              have HKl := Lib.hid hkl
              have hj : j < m.size := by omega
              have HBj := Lib.hid (bl_at m j hj)
              clear hkl
              by_cases hp : m[j] = 32
              · have HR2 := Lib.hid (HF.out (.inl (HG.out.1.2 (.inr (by simp only [Nat.add_sub_cancel]; rw [HBj.out, hp])))))
                have e5 : ((m[j].toNat : Int) == 32) = true := by rw [hp]; rfl
                clear hp
                go_wp2
                go_ret
                exact ⟨by rw [HR.out, HR2.out]; rfl, HBw.out⟩
              · have e5 : ((m[j].toNat : Int) == 32) = false := beq_false_of_ne (fun e => hp (u8_eq (k := 32) (by omega) (by decide)))
                have HN : Hid (msgGo xs.length true ((bl m).drop (j + 1 + 1)) = msgGo xs.length true (bl m)) := Lib.hid (by
                  have h1 : bq = false := by
                    cases hb : bq with
                    | false => rfl
                    | true =>
                      rcases HG.out.1.1 hb with h | h
                      · omega
                      · simp only [Nat.add_sub_cancel] at h
                        rw [HBj.out] at h
                        exact absurd (Option.some.inj h) hp
                  have h2 := HG.out.2.1
                  rw [h1, HDc.out, msgGo_space] at h2
                  simp only [Bool.not_false, Bool.true_and] at h2
                  exact h2)
                clear hp
                go_wp2
                go_roundw
                case rel => exact ⟨j + 1 + 1, true, by go_num, by omega, HW, Lib.hid ⟨by simpa using HBc.out, HN.out, fun h => absurd h HKl.out⟩⟩
                case measure => simp [intOf]; omega
        · have heq : ((m[k].toNat : Int) == 32) = false := beq_false_of_ne (fun e => hc (u8_eq (k := 32) (by omega) (by decide)))
          have HNe := Lib.hid hc
          have i0 : (0 : Int) ≤ (k : Int) := by omega
          have i1 : (k : Int) < (m.size : Int) := by omega
          have HIn := Lib.hid fun w => in_any ((m[k].toNat : Int) - 97) 0 ((xs.length : Int) - 1) w
          have hby : m[k].toNat < 256 := m[k].toNat_lt
          have q1 : IntKind.i64.wrap (m[k].toNat : Int) = (m[k].toNat : Int) := by rw [IntKind.wrap_i64]; omega
          have q2 : IntKind.i64.wrap ((m[k].toNat : Int) - 97) = (m[k].toNat : Int) - 97 := by rw [IntKind.wrap_i64]; omega
          have q3 : wrap64 (m[k].toNat : Int) = (m[k].toNat : Int) := IntWalk.wrap64_in _ (by omega)
          have q4 : wrap64 ((m[k].toNat : Int) - 97) = (m[k].toNat : Int) - 97 := IntWalk.wrap64_in _ (by omega)
          have q5 : IntKind.i64.wrap ((xs.length : Int) - 1) = (xs.length : Int) - 1 := by rw [IntKind.wrap_i64]; omega
          have q6 : wrap64 ((xs.length : Int) - 1) = (xs.length : Int) - 1 := IntWalk.wrap64_in _ (by omega)
          clear hc
          by_cases hrow : inRow xs.length m[k] = true
          · have HI2 := Lib.hid fun w => val_eq (v' := .bool true) (HIn.out w) (by
              rw [inRow_iff, Bool.and_eq_true] at hrow
              simp only [decide_eq_true_eq] at hrow
              congr 1
              rw [Bool.and_eq_true]; simp only [decide_eq_true_eq]; omega)
            have HN : Hid ((false = true ↔ k + 1 = 0 ∨ (bl m)[k + 1 - 1]? = some 32) ∧ msgGo xs.length false ((bl m).drop (k + 1)) = msgGo xs.length true (bl m) ∧ (k + 1 = m.size → 0 < k + 1 → false = false)) := Lib.hid (by
              have h2 := HG.out.2.1
              rw [HDr.out, msgGo_row HNe.out, hrow, Bool.true_and] at h2
              refine ⟨⟨by simp, fun h => ?_⟩, h2, fun _ _ => rfl⟩
              rcases h with h | h
              · omega
              · simp only [Nat.add_sub_cancel] at h
                rw [HBy.out] at h
                exact absurd (Option.some.inj h) HNe.out)
            clear hrow HIn
            go_wp2
            go_quiet ((go_at_call 75; exact Calls.quiet_of_same (HI2.out _)))
            go_wp2
            go_roundw
            case rel => exact ⟨k + 1, false, by go_num, by omega, Lib.hid (by obtain ⟨q, rfl⟩ := HW.out; exact ⟨q + nq, by rw [World.drewN_drewN]⟩), Lib.hid ⟨HN.out.1, HN.out.2.1, fun _ _ => rfl⟩⟩
            case measure => simp [intOf]; omega
          · have HI2 := Lib.hid fun w => val_eq (v' := .bool false) (HIn.out w) (by
              have h2 : inRow xs.length m[k] = false := by simpa using hrow
              rw [inRow_iff, Bool.and_eq_false_iff] at h2
              simp only [decide_eq_false_iff_not] at h2
              congr 1
              rw [Bool.and_eq_false_iff]; simp only [decide_eq_false_iff_not]; omega)
            have HR2 : Hid (((bl m).isEmpty || msgGo xs.length true (bl m)) = false) := Lib.hid (by
              have h2 : inRow xs.length m[k] = false := by simpa using hrow
              rw [HE.out, Bool.false_or, ← HG.out.2.1, HDr.out, msgGo_row HNe.out, h2]; rfl)
            clear hrow HIn
            go_wp2
            go_quiet ((go_at_call 75; exact Calls.quiet_of_same (HI2.out _)))
            go_wp2
            go_ret
            exact ⟨by rw [HR.out, HR2.out]; rfl, HBw.out.trans ⟨rfl, rfl, rfl, Nat.le_refl _, fun _ _ => rfl⟩⟩
      · have HR2 : Hid (((bl m).isEmpty || msgGo xs.length true (bl m)) = true) := Lib.hid (by
          obtain ⟨h1, h2, h3⟩ := HG.out
          rw [List.drop_of_length_le (by rw [bl_len]; omega)] at h2
          by_cases hk0 : k = 0
          · have h5 : (bl m).length = 0 := by rw [bl_len]; omega
            rw [List.length_eq_zero_iff.1 h5]; rfl
          · rw [← h2, h3 (by omega) (by omega)]; simp [msgGo])
        go_wp2
        go_ret
        exact ⟨by rw [HR.out, HR2.out]; rfl, HBw.out⟩

end Go.Proofs.Ytdphjnbelggcfaa
