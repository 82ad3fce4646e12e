/-
  Contracts of the model's l1Stands, l1Seal, AppendChecksum and of the program's AppendChecksum. Used by the claims on AppendChecksum, VerifyChecksum and FnStrings.
-/
import Derived.Test.YtppiocjmhlgjoaaDoorSumW
import Derived.Test.YtppiocjmhlgjoaaDoorJoinW
import Derived.Test.YtppiocjmhlgjoaaDoorFmtW
namespace Go.Proofs.YtppiocjmhlgjoaaDoor
open Go.RowKit
set_option linter.unusedVariables false

theorem stands_no (s : ByteArray) (c : UInt8) (w : World) (hs : s.size ≤ maxLen) (hn : c ∉ s.data.toList) :
    Calls Tryd.prog 33 #[.string s, .int .u8 c.toNat] w fun e w' => e = .returned (.bool false) ∧ w' = w := by
  unfold maxLen at hs
  have HN := Lib.hid hn
  clear hn
  go_enter Tryd.func33, Tryd.ntmps33
  go_wp2
  go_loop [5] (fun i => ∃ k : Nat, k ≤ s.size ∧ i = .int .i64 k) (fun i => s.size - (intOf i).toNat)
  case atStart => exact ⟨0, Nat.zero_le _, rfl⟩
  case round =>
    obtain ⟨k, hk, rfl⟩ := hrel
    by_cases hlt : k < s.size
    · have hne : ((s[k].toNat : Int) == (c.toNat : Int)) = false := beq_false_of_ne (fun e => HN.out (by
        have : s[k] = c := UInt8.toNat_inj.1 (by omega)
        rw [← this]
        have e2 : s[k] = s.data.toList[k]'(by simpa using hlt) := rfl
        rw [e2]; exact List.getElem_mem _))
      go_wp2
      all_goals
        go_round
        case rel => exact ⟨k + 1, by omega, by go_num⟩
        case measure => simp [intOf]; omega
    · go_wp2
      go_ret
      exact ⟨rfl, rfl⟩

theorem stands_yes (s : ByteArray) (c : UInt8) (w : World) (hs : s.size ≤ maxLen) (hn : c ∈ s.data.toList) :
    Calls Tryd.prog 33 #[.string s, .int .u8 c.toNat] w fun e w' => e = .returned (.bool true) ∧ w' = w := by
  unfold maxLen at hs
  have HN := Lib.hid hn
  clear hn
  go_enter Tryd.func33, Tryd.ntmps33
  go_wp2
  go_loop [5] (fun i => ∃ k : Nat, k ≤ s.size ∧ i = .int .i64 k ∧ Hid (c ∉ s.data.toList.take k)) (fun i => s.size - (intOf i).toNat)
  case atStart => exact ⟨0, Nat.zero_le _, rfl, Lib.hid (by simp)⟩
  case round =>
    obtain ⟨k, hk, rfl, HT⟩ := hrel
    by_cases hlt : k < s.size
    · by_cases heq : s[k] = c
      · have hne : ((s[k].toNat : Int) == (c.toNat : Int)) = true := by rw [heq]; simp
        clear heq
        go_wp2
        go_ret
        exact ⟨rfl, rfl⟩
      · have hne : ((s[k].toNat : Int) == (c.toNat : Int)) = false := beq_false_of_ne (fun e => heq (UInt8.toNat_inj.1 (by omega)))
        have HE := Lib.hid heq
        clear heq
        go_wp2
        all_goals
          go_round
          case rel => exact ⟨k + 1, by omega, by go_num, by
            show c ∉ _
            rw [List.take_succ_eq_append_getElem (by simpa using hlt)]
            intro hm
            rcases List.mem_append.1 hm with h | h
            · exact HT.out h
            · simp only [List.mem_singleton] at h; exact HE.out h.symm⟩
          case measure => simp [intOf]; omega
    · exfalso
      have e2 := HT.out
      rw [List.take_of_length_le (by simp; omega)] at e2
      exact e2 HN.out

/-- The sealed text. -/
def sealed (l : List UInt8) : List UInt8 := l ++ 35 :: Lib.itoa (sumL l)
theorem itoa_sum_len (l : List UInt8) : (Lib.itoa (sumL l)).length ≤ 6 := by
  obtain ⟨h0, h1⟩ := sumL_bd l
  have e : Lib.itoa (sumL l) = Lib.decDigits (sumL l).toNat := by unfold Lib.itoa; rw [if_neg (by omega)]
  rw [e]; exact dec_len6 (by omega)

set_option maxHeartbeats 400000 in
theorem l1Seal_any (s : ByteArray) (w : World) (hs : s.size ≤ 1048576) :
    Calls Tryd.prog 34 #[.string s] w fun e w' => e = .returned (.string ⟨(sealed s.data.toList).toArray⟩) ∧ ∃ k, w' = w.drewN k := by
  obtain ⟨h0, h1⟩ := sumL_bd s.data.toList
  have hm : s.size ≤ maxLen := by unfold maxLen; omega
  have HS : Hid ((s ++ (⟨#[35]⟩ : ByteArray)) ++ (⟨(Lib.itoa (sumL s.data.toList)).toArray⟩ : ByteArray) = ⟨(sealed s.data.toList).toArray⟩) := by
    show _ = _
    apply ByteArray.ext
    apply Array.toList_inj.1
    simp [sealed]
  have hl : ¬ 9223372036854775807 < s.size + 1 := by omega
  have hl2 : ¬ 9223372036854775807 < s.size + 1 + (Lib.itoa (sumL s.data.toList)).length := by
    have := itoa_sum_len s.data.toList
    omega
  have A := Lib.hid (l1Sum_any s w hm)
  have B := Lib.hid (l1Num_any (sumL s.data.toList) (by omega) (by omega) w)
  clear h0 h1 hm
  go_enter Tryd.func34, Tryd.ntmps34
  go_wp2_with fail
  refine A.out.mono ?_
  rintro e w' ⟨rfl, rfl⟩
  go_wp2_with fail
  refine B.out.mono ?_
  rintro e w' ⟨rfl, k, rfl⟩
  go_wp2
  rw [HS.out]
  go_ret
  exact ⟨rfl, k, rfl⟩

/-- What AppendChecksum asks of a text. -/
def CanSeal (s : ByteArray) : Prop := s.size ≤ 4000 ∧ (35 : UInt8) ∉ s.data.toList ∧ (sealed s.data.toList).length ≤ 4000
theorem sealed_len (l : List UInt8) : (sealed l).length = l.length + 1 + (Lib.itoa (sumL l)).length := by simp [sealed]; omega

theorem specSeal_yes (s : ByteArray) (w : World) (h : CanSeal s) :
    Calls Tryd.prog 17 #[.string s] w fun e w' => e = .returned (.tuple #[.string ⟨(sealed s.data.toList).toArray⟩, .bool true]) ∧ ∃ k, w' = w.drewN k := by
  obtain ⟨h1, h2, h3⟩ := h
  have A := fun w => stands_no s 35 w (by unfold maxLen; omega) h2
  have HA := Lib.hid A
  have B := Lib.hid (fun w => l1Seal_any s w (by omega))
  clear h2 A
  go_enter Tryd.func17, Tryd.ntmps17
  go_wp2_with fail
  refine (HA.out _).mono ?_
  rintro e w' ⟨rfl, rfl⟩
  go_wp2_with fail
  refine (B.out _).mono ?_
  rintro e w' ⟨rfl, k, rfl⟩
  go_wp2_with fail
  refine (B.out _).mono ?_
  rintro e w' ⟨rfl, k2, rfl⟩
  go_wp2
  go_ret2
  exact ⟨rfl, k + k2, rfl⟩
theorem specSeal_long (s : ByteArray) (w : World) (hm : s.size ≤ maxLen) (h : 4000 < s.size) :
    Calls Tryd.prog 17 #[.string s] w fun e w' => e = .returned (.tuple #[.string ⟨#[]⟩, .bool false]) ∧ ∃ k, w' = w.drewN k := by
  unfold maxLen at hm
  go_enter Tryd.func17, Tryd.ntmps17
  go_wp2
  go_ret2
  exact ⟨rfl, 0, rfl⟩
theorem specSeal_has (s : ByteArray) (w : World) (h1 : s.size ≤ 4000) (h : (35 : UInt8) ∈ s.data.toList) :
    Calls Tryd.prog 17 #[.string s] w fun e w' => e = .returned (.tuple #[.string ⟨#[]⟩, .bool false]) ∧ ∃ k, w' = w.drewN k := by
  have HA := Lib.hid (fun w => stands_yes s 35 w (by unfold maxLen; omega) h)
  clear h
  go_enter Tryd.func17, Tryd.ntmps17
  go_wp2_with fail
  refine (HA.out _).mono ?_
  rintro e w' ⟨rfl, rfl⟩
  go_wp2
  go_ret2
  exact ⟨rfl, 0, rfl⟩
theorem specSeal_far (s : ByteArray) (w : World) (h1 : s.size ≤ 4000) (h2 : (35 : UInt8) ∉ s.data.toList) (h3 : 4000 < (sealed s.data.toList).length) :
    Calls Tryd.prog 17 #[.string s] w fun e w' => e = .returned (.tuple #[.string ⟨#[]⟩, .bool false]) ∧ ∃ k, w' = w.drewN k := by
  have h4 : (sealed s.data.toList).length ≤ 4100 := by
    have := itoa_sum_len s.data.toList
    have e : s.data.toList.length = s.size := by simp
    rw [sealed_len]; omega
  have HA := Lib.hid (fun w => stands_no s 35 w (by unfold maxLen; omega) h2)
  have B := Lib.hid (fun w => l1Seal_any s w (by omega))
  clear h2
  go_enter Tryd.func17, Tryd.ntmps17
  go_wp2_with fail
  refine (HA.out _).mono ?_
  rintro e w' ⟨rfl, rfl⟩
  go_wp2_with fail
  refine (B.out _).mono ?_
  rintro e w' ⟨rfl, k, rfl⟩
  go_wp2
  go_ret2
  exact ⟨rfl, k, rfl⟩
theorem specSeal_no (s : ByteArray) (w : World) (hm : s.size ≤ maxLen) (h : ¬ CanSeal s) :
    Calls Tryd.prog 17 #[.string s] w fun e w' => e = .returned (.tuple #[.string ⟨#[]⟩, .bool false]) ∧ ∃ k, w' = w.drewN k := by
  by_cases h1 : s.size ≤ 4000
  · by_cases h2 : (35 : UInt8) ∈ s.data.toList
    · exact specSeal_has s w h1 h2
    · exact specSeal_far s w h1 h2 (by
        rcases Nat.lt_or_ge 4000 (sealed s.data.toList).length with h3 | h3
        · exact h3
        · exact absurd ⟨h1, h2, h3⟩ h)
  · exact specSeal_long s w hm (by omega)

/-! ### The program's -/
theorem dig35 (u : Nat) : (35 : UInt8) ∉ Lib.decDigits u := by
  induction u using Nat.strongRecOn with
  | ind u ih =>
    have key : ∀ d : Nat, d < 10 → (35 : UInt8) ∉ [UInt8.ofNat (48 + d)] := by
      intro d hd h
      simp only [List.mem_singleton] at h
      have h2 := congrArg UInt8.toNat h
      rw [UInt8.toNat_ofNat'] at h2
      have h3 : (35 : UInt8).toNat = 35 := rfl
      omega
    by_cases h : u < 10
    · rw [dec_small h]; exact key u h
    · rw [dec_big h]; intro hc
      rcases List.mem_append.1 hc with hc | hc
      · exact ih (u / 10) (by omega) hc
      · exact key (u % 10) (by omega) hc

theorem implSeal_long (s : ByteArray) (w : World) (hm : s.size ≤ maxLen) (h : 4000 < s.size) :
    Calls Tryd.prog 16 #[.string s] w fun e w' => e = .returned (.tuple #[.string ⟨#[]⟩, .bool false]) ∧ Below w.heap.size w w' := by
  have A := Lib.hid (implChecksum_no s w h hm)
  clear h hm
  go_enter Tryd.func16, Tryd.ntmps16
  go_wp2_with fail
  refine A.out.mono ?_
  rintro e w' ⟨rfl, rfl⟩
  go_wp2
  go_ret2
  exact ⟨rfl, Below.refl _ _⟩

/-! Two texts in a new block. -/
theorem pair_cells (s t : ByteArray) (w : World) (j : Nat) (x : ByteArray) (h : [s, t][j]? = some x) :
    (w.alloc (.cells #[.string s, .string t] 9)).cell? ⟨w.heap.size, 0 + j, none⟩ = some (.string x) := by
  match j, h with
  | 0, h => obtain rfl : s = x := by simpa using h
            simp
  | 1, h => obtain rfl : t = x := by simpa using h
            simp
  | n + 2, h => simp at h
theorem pair_tot (s t : ByteArray) : tot [s, t] = s.size + 1 + (t.size + 1) := by simp [tot]
theorem pair_joined (s t : ByteArray) (c : UInt8) : joined [s, t] c = s.data.toList ++ c :: t.data.toList := by
  simp [joined, Lib.join, List.intercalate]
theorem pair_has (s t : ByteArray) (c : UInt8) : Has c [s, t] ↔ c ∈ s.data.toList ∨ c ∈ t.data.toList := by simp [Has]

theorem pair_ok (s t : ByteArray) (c : UInt8) (w : World) (ht : s.size + 1 + (t.size + 1) ≤ 4001) (hs : c ∉ s.data.toList) (h2 : c ∉ t.data.toList) :
    Calls Tryd.prog 32 #[.slice (some ⟨w.heap.size, 0, none⟩) 2 2, .string ⟨#[c]⟩] (w.alloc (.cells #[.string s, .string t] 9)) fun e w' =>
      e = .returned (.tuple #[.string ⟨(s.data.toList ++ c :: t.data.toList).toArray⟩, .bool true]) ∧ Below w.heap.size w w' := by
  have := join_ok (some ⟨w.heap.size, 0, none⟩) w.heap.size 0 2 [s, t] c (w.alloc (.cells #[.string s, .string t] 9)) (fun _ => rfl) (pair_cells s t w) (by simp) (by simp) (by simp) (by rw [pair_tot]; exact ht)
    (fun h => ((pair_has s t c).1 h).elim hs h2)
  rw [pair_joined] at this
  exact this.mono fun e w' ⟨he, hb⟩ => ⟨he, ((Below.refl w.heap.size w).alloc (Nat.le_refl _) _).trans (hb.mono (by simp))⟩
theorem pair_no (s t : ByteArray) (c : UInt8) (w : World) (hs : s.size ≤ maxLen) (h2 : t.size ≤ maxLen) (h : 4001 < s.size + 1 + (t.size + 1) ∨ c ∈ s.data.toList ∨ c ∈ t.data.toList) :
    Calls Tryd.prog 32 #[.slice (some ⟨w.heap.size, 0, none⟩) 2 2, .string ⟨#[c]⟩] (w.alloc (.cells #[.string s, .string t] 9)) fun e w' =>
      e = .returned (.tuple #[.string ⟨#[]⟩, .bool false]) ∧ Below w.heap.size w w' := by
  have hm : ∀ x ∈ [s, t], x.size ≤ maxLen := by
    intro x hx
    simp only [List.mem_cons, List.not_mem_nil, or_false] at hx
    rcases hx with rfl | rfl
    · exact hs
    · exact h2
  by_cases ht : tot [s, t] ≤ 4001
  · have hh : Has c [s, t] := (pair_has s t c).2 (by
      rcases h with h | h
      · rw [pair_tot] at ht; omega
      · exact h)
    have := join_has (some ⟨w.heap.size, 0, none⟩) w.heap.size 0 2 [s, t] c (w.alloc (.cells #[.string s, .string t] 9)) (fun _ => rfl) (pair_cells s t w) hm (by unfold maxLen; simp) (by simp) ht hh
    exact this.mono fun e w' ⟨he, hb⟩ => ⟨he, by rw [hb]; exact (Below.refl w.heap.size w).alloc (Nat.le_refl _) _⟩
  · have := join_far (some ⟨w.heap.size, 0, none⟩) w.heap.size 0 2 [s, t] c (w.alloc (.cells #[.string s, .string t] 9)) (fun _ => rfl) (pair_cells s t w) hm (by unfold maxLen; simp) (by simp) (by omega)
    exact this.mono fun e w' ⟨he, hb⟩ => ⟨he, by rw [hb]; exact (Below.refl w.heap.size w).alloc (Nat.le_refl _) _⟩

theorem itoa_sum_size (l : List UInt8) : (⟨(Lib.itoa (sumL l)).toArray⟩ : ByteArray).size = (Lib.itoa (sumL l)).length := by
  show (Lib.itoa (sumL l)).toArray.size = _
  simp
theorem itoa_sum_35 (l : List UInt8) : (35 : UInt8) ∉ (⟨(Lib.itoa (sumL l)).toArray⟩ : ByteArray).data.toList := by
  obtain ⟨h0, h1⟩ := sumL_bd l
  have e : Lib.itoa (sumL l) = Lib.decDigits (sumL l).toNat := by unfold Lib.itoa; rw [if_neg (by omega)]
  show (35 : UInt8) ∉ (Lib.itoa (sumL l)).toArray.toList
  rw [e]; exact dig35 _

theorem implSeal_yes (s : ByteArray) (w : World) (hP : Pow w) (h : CanSeal s) :
    Calls Tryd.prog 16 #[.string s] w fun e w' => e = .returned (.tuple #[.string ⟨(sealed s.data.toList).toArray⟩, .bool true]) ∧ Below w.heap.size w w' := by
  obtain ⟨h1, h2, h3⟩ := h
  obtain ⟨b0, b1⟩ := sumL_bd s.data.toList
  have A := Lib.hid (implChecksum_yes s w h1)
  have B := Lib.hid (implFormat_yes (sumL s.data.toList) (by omega) (by omega) w hP)
  have C := Lib.hid (fun w => pair_ok s ⟨(Lib.itoa (sumL s.data.toList)).toArray⟩ 35 w (by
    rw [itoa_sum_size]; rw [sealed_len] at h3
    have e : s.data.toList.length = s.size := by simp
    omega) h2 (itoa_sum_35 _))
  clear h1 h2 h3 b0 b1 hP
  go_enter Tryd.func16, Tryd.ntmps16
  go_wp2_with fail
  refine A.out.mono ?_
  rintro e w' ⟨rfl, rfl⟩
  go_wp2_with fail
  refine B.out.mono ?_
  rintro e w1 ⟨rfl, hb⟩
  have HB := Lib.hid hb
  clear hb
  go_wp2_with fail
  refine (C.out _).mono ?_
  rintro e w2 ⟨rfl, hb⟩
  have HB2 := Lib.hid (HB.out.trans (hb.mono HB.out.size))
  clear hb
  go_wp2
  go_ret2
  exact ⟨rfl, HB2.out⟩
theorem implSeal_short (s : ByteArray) (w : World) (hP : Pow w) (h1 : s.size ≤ 4000) (h : (35 : UInt8) ∈ s.data.toList ∨ 4000 < (sealed s.data.toList).length) :
    Calls Tryd.prog 16 #[.string s] w fun e w' => e = .returned (.tuple #[.string ⟨#[]⟩, .bool false]) ∧ Below w.heap.size w w' := by
  obtain ⟨b0, b1⟩ := sumL_bd s.data.toList
  have h6 := itoa_sum_len s.data.toList
  have A := Lib.hid (implChecksum_yes s w h1)
  have B := Lib.hid (implFormat_yes (sumL s.data.toList) (by omega) (by omega) w hP)
  have C := Lib.hid (fun w => pair_no s ⟨(Lib.itoa (sumL s.data.toList)).toArray⟩ 35 w (by unfold maxLen; omega) (by rw [itoa_sum_size]; unfold maxLen; omega) (by
    rcases h with h | h
    · exact .inr (.inl h)
    · rw [itoa_sum_size]; rw [sealed_len] at h
      have e : s.data.toList.length = s.size := by simp
      exact .inl (by omega)))
  clear h h1 h6 b0 b1 hP
  go_enter Tryd.func16, Tryd.ntmps16
  go_wp2_with fail
  refine A.out.mono ?_
  rintro e w' ⟨rfl, rfl⟩
  go_wp2_with fail
  refine B.out.mono ?_
  rintro e w1 ⟨rfl, hb⟩
  have HB := Lib.hid hb
  clear hb
  go_wp2_with fail
  refine (C.out _).mono ?_
  rintro e w2 ⟨rfl, hb⟩
  have HB2 := Lib.hid (HB.out.trans (hb.mono HB.out.size))
  clear hb
  go_wp2
  go_ret2
  exact ⟨rfl, HB2.out⟩
theorem implSeal_no (s : ByteArray) (w : World) (hP : Pow w) (hm : s.size ≤ maxLen) (h : ¬ CanSeal s) :
    Calls Tryd.prog 16 #[.string s] w fun e w' => e = .returned (.tuple #[.string ⟨#[]⟩, .bool false]) ∧ Below w.heap.size w w' := by
  by_cases h1 : s.size ≤ 4000
  · refine implSeal_short s w hP h1 ?_
    by_cases h2 : (35 : UInt8) ∈ s.data.toList
    · exact .inl h2
    · refine .inr ?_
      rcases Nat.lt_or_ge 4000 (sealed s.data.toList).length with h3 | h3
      · exact h3
      · exact absurd ⟨h1, h2, h3⟩ h
  · exact implSeal_long s w hm (by omega)
end Go.Proofs.YtppiocjmhlgjoaaDoor
