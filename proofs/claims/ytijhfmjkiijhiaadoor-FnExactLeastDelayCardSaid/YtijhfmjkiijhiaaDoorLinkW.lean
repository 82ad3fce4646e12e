/-
  JoinLines and LeastDelay, the program's and the model's: both answer alike. Used by the claims on chapter 4.
-/
import Derived.Test.YtijhfmjkiijhiaaDoorLineX
import Derived.Test.YtijhfmjkiijhiaaDoorMkTimeW0
namespace Go.Proofs.YtijhfmjkiijhiaaDoor
open Go.RowKit
set_option linter.unusedVariables false

/-! ### JoinLines -/
theorem joinLines_no (a b : ByteArray) (w : World) (ha : a.size ≤ 1048576) (hb : b.size ≤ 1048576) (h : ¬ (lineL (bl a) = true ∧ lineL (bl b) = true)) :
    Calls Tryd.prog 30 #[.string a, .string b] w fun e w' => e = .returned (.tuple #[.string ByteArray.empty, .bool false]) ∧ Below w.heap.size w w' := by
  cases h1 : lineL (bl a)
  · have HA := isLine_is a false ha h1
    clear h h1
    go_enter Tryd.func30, Tryd.ntmps30
    go_wp2_with fail
    refine (HA.out _).mono ?_
    rintro e w1 ⟨rfl, hb1⟩
    have HB := Lib.hid hb1
    clear hb1
    go_wp2
    (first | go_ret | go_ret2)
    exact ⟨rfl, HB.out⟩
  · have h2 : lineL (bl b) = false := by
      cases h2 : lineL (bl b)
      · rfl
      · exact absurd ⟨h1, h2⟩ h
    have HA := isLine_is a true ha h1
    have HC := isLine_is b false hb h2
    clear h h1 h2
    go_enter Tryd.func30, Tryd.ntmps30
    go_wp2_with fail
    refine (HA.out _).mono ?_
    rintro e w1 ⟨rfl, hb1⟩
    have HB := Lib.hid hb1
    clear hb1
    go_wp2_with fail
    refine (HC.out _).mono ?_
    rintro e w2 ⟨rfl, hb2⟩
    have HB2 := Lib.hid (HB.out.trans (hb2.mono HB.out.size))
    clear hb2
    go_wp2
    (first | go_ret | go_ret2)
    exact ⟨rfl, HB2.out⟩
theorem sJoinLines_no (a b : ByteArray) (w : World) (ha : a.size ≤ 1048576) (hb : b.size ≤ 1048576) (h : ¬ (lineL (bl a) = true ∧ lineL (bl b) = true)) :
    Calls Tryd.prog 29 #[.string a, .string b] w fun e w' => e = .returned (.tuple #[.string ByteArray.empty, .bool false]) ∧ Below w.heap.size w w' := by
  cases h1 : lineL (bl a)
  · have HA := sLine_is a false ha h1
    clear h h1
    go_enter Tryd.func29, Tryd.ntmps29
    go_wp2_with fail
    refine (HA.out _).mono ?_
    rintro e w1 ⟨rfl, hb1⟩
    have HB := Lib.hid hb1
    clear hb1
    go_wp2
    (first | go_ret | go_ret2)
    exact ⟨rfl, HB.out⟩
  · have h2 : lineL (bl b) = false := by
      cases h2 : lineL (bl b)
      · rfl
      · exact absurd ⟨h1, h2⟩ h
    have HA := sLine_is a true ha h1
    have HC := sLine_is b false hb h2
    clear h h1 h2
    go_enter Tryd.func29, Tryd.ntmps29
    go_wp2_with fail
    refine (HA.out _).mono ?_
    rintro e w1 ⟨rfl, hb1⟩
    have HB := Lib.hid hb1
    clear hb1
    go_wp2_with fail
    refine (HC.out _).mono ?_
    rintro e w2 ⟨rfl, hb2⟩
    have HB2 := Lib.hid (HB.out.trans (hb2.mono HB.out.size))
    clear hb2
    go_wp2
    (first | go_ret | go_ret2)
    exact ⟨rfl, HB2.out⟩
theorem joinLines_yesA (a b : ByteArray) (w : World) (ha : a.size ≤ 1048576) (hb : b.size ≤ 1048576) (h1 : lineL (bl a) = true) (h2 : lineL (bl b) = true) (hab : (a.size : Int) < (b.size : Int)) :
    Calls Tryd.prog 30 #[.string a, .string b] w fun e w' => e = .returned (.tuple #[.string ⟨(joinTo (bl a) (bl b) b.size).toArray⟩, .bool true]) ∧ Below w.heap.size w w' := by
  have la : a.size ≤ 200 := by have := line_len h1; rwa [bl_len] at this
  have lb : b.size ≤ 200 := by have := line_len h2; rwa [bl_len] at this
  have HA := isLine_is a true ha h1
  have HC := isLine_is b true hb h2
  clear h1 h2
  go_enter Tryd.func30, Tryd.ntmps30
  go_wp2_with fail
  refine (HA.out _).mono ?_
  rintro e w1 ⟨rfl, hb1⟩
  have HB := Lib.hid hb1
  clear hb1
  go_wp2_with fail
  refine (HC.out _).mono ?_
  rintro e w2 ⟨rfl, hb2⟩
  have HB2 := Lib.hid (HB.out.trans (hb2.mono HB.out.size))
  clear hb2
  go_wp2
  go_loop [6, 21] (fun sv v => ∃ (k : Nat) (l : Bs), v = .int .i64 k ∧ k ≤ b.size ∧ sv = .string ⟨l.toArray⟩ ∧ l.length = k ∧ Hid (l = joinTo (bl a) (bl b) k)) (fun _ v => b.size - (intOf v).toNat)
  case atStart => exact ⟨0, [], rfl, Nat.zero_le _, rfl, rfl, Lib.hid rfl⟩
  case round =>
    obtain ⟨k, l, rfl, hk, rfl, hl, HL⟩ := hrel
    by_cases hlt : (k : Int) < (b.size : Int)
    · have HO := Lib.hid fun w => isOnAt_any a k w ha (by omega)
      have HP := Lib.hid fun w => isOnAt_any b k w hb (by omega)
      have HN : Hid (joinTo (bl a) (bl b) (k + 1) = l ++ [beatOf (onAt (bl a) k || onAt (bl b) k)]) := Lib.hid (by rw [joinTo, ← HL.out])
      have HLl : ∀ d, Hid ((l ++ [d]).length = k + 1) := fun d => Lib.hid (by simp [hl])
      have HL0 := HLl 48
      have HL1 := HLl 49
      have HC0 := Lib.hid (catE l 48)
      have HC1 := Lib.hid (catE l 49)
      have p1 : ¬ 9223372036854775807 < l.length + 1 := by omega
      clear HLl hl
      cases hO : onAt (bl a) k
      · rw [hO] at HO HN
        cases hP : onAt (bl b) k
        · rw [hP] at HP HN
          have HN2 : Hid (l ++ [48] = joinTo (bl a) (bl b) (k + 1)) := Lib.hid HN.out.symm
          clear hO hP HN
          go_wp2_with fail
          refine (HO.out _).mono ?_
          rintro e w' ⟨rfl, rfl⟩
          go_wp2_with fail
          refine (HP.out _).mono ?_
          rintro e w' ⟨rfl, rfl⟩
          go_wp2
          go_round
          case rel => exact ⟨k + 1, l ++ [48], by go_num, by omega, by rw [HC0.out], HL0.out, HN2⟩
          case measure => simp [intOf]; omega
        · rw [hP] at HP HN
          have HN2 : Hid (l ++ [49] = joinTo (bl a) (bl b) (k + 1)) := Lib.hid HN.out.symm
          clear hO hP HN
          go_wp2_with fail
          refine (HO.out _).mono ?_
          rintro e w' ⟨rfl, rfl⟩
          go_wp2_with fail
          refine (HP.out _).mono ?_
          rintro e w' ⟨rfl, rfl⟩
          go_wp2
          go_round
          case rel => exact ⟨k + 1, l ++ [49], by go_num, by omega, by rw [HC1.out], HL1.out, HN2⟩
          case measure => simp [intOf]; omega
      · rw [hO, Bool.true_or] at HN
        rw [hO] at HO
        have HN2 : Hid (l ++ [49] = joinTo (bl a) (bl b) (k + 1)) := Lib.hid HN.out.symm
        clear hO HN
        go_wp2_with fail
        refine (HO.out _).mono ?_
        rintro e w' ⟨rfl, rfl⟩
        go_wp2
        go_round
        case rel => exact ⟨k + 1, l ++ [49], by go_num, by omega, by rw [HC1.out], HL1.out, HN2⟩
        case measure => simp [intOf]; omega
    · have HE : Hid (joinTo (bl a) (bl b) b.size = l) := Lib.hid (by rw [HL.out]; congr 1; omega)
      clear hl
      go_wp2
      (first | go_ret | go_ret2)
      exact ⟨by first | (rw [HE.out]; rfl) | rw [HE.out], HB2.out⟩
theorem joinLines_yesB (a b : ByteArray) (w : World) (ha : a.size ≤ 1048576) (hb : b.size ≤ 1048576) (h1 : lineL (bl a) = true) (h2 : lineL (bl b) = true) (hab : ¬ (a.size : Int) < (b.size : Int)) :
    Calls Tryd.prog 30 #[.string a, .string b] w fun e w' => e = .returned (.tuple #[.string ⟨(joinTo (bl a) (bl b) a.size).toArray⟩, .bool true]) ∧ Below w.heap.size w w' := by
  have la : a.size ≤ 200 := by have := line_len h1; rwa [bl_len] at this
  have lb : b.size ≤ 200 := by have := line_len h2; rwa [bl_len] at this
  have HA := isLine_is a true ha h1
  have HC := isLine_is b true hb h2
  clear h1 h2
  go_enter Tryd.func30, Tryd.ntmps30
  go_wp2_with fail
  refine (HA.out _).mono ?_
  rintro e w1 ⟨rfl, hb1⟩
  have HB := Lib.hid hb1
  clear hb1
  go_wp2_with fail
  refine (HC.out _).mono ?_
  rintro e w2 ⟨rfl, hb2⟩
  have HB2 := Lib.hid (HB.out.trans (hb2.mono HB.out.size))
  clear hb2
  go_wp2
  go_loop [6, 21] (fun sv v => ∃ (k : Nat) (l : Bs), v = .int .i64 k ∧ k ≤ a.size ∧ sv = .string ⟨l.toArray⟩ ∧ l.length = k ∧ Hid (l = joinTo (bl a) (bl b) k)) (fun _ v => a.size - (intOf v).toNat)
  case atStart => exact ⟨0, [], rfl, Nat.zero_le _, rfl, rfl, Lib.hid rfl⟩
  case round =>
    obtain ⟨k, l, rfl, hk, rfl, hl, HL⟩ := hrel
    by_cases hlt : (k : Int) < (a.size : Int)
    · have HO := Lib.hid fun w => isOnAt_any a k w ha (by omega)
      have HP := Lib.hid fun w => isOnAt_any b k w hb (by omega)
      have HN : Hid (joinTo (bl a) (bl b) (k + 1) = l ++ [beatOf (onAt (bl a) k || onAt (bl b) k)]) := Lib.hid (by rw [joinTo, ← HL.out])
      have HLl : ∀ d, Hid ((l ++ [d]).length = k + 1) := fun d => Lib.hid (by simp [hl])
      have HL0 := HLl 48
      have HL1 := HLl 49
      have HC0 := Lib.hid (catE l 48)
      have HC1 := Lib.hid (catE l 49)
      have p1 : ¬ 9223372036854775807 < l.length + 1 := by omega
      clear HLl hl
      cases hO : onAt (bl a) k
      · rw [hO] at HO HN
        cases hP : onAt (bl b) k
        · rw [hP] at HP HN
          have HN2 : Hid (l ++ [48] = joinTo (bl a) (bl b) (k + 1)) := Lib.hid HN.out.symm
          clear hO hP HN
          go_wp2_with fail
          refine (HO.out _).mono ?_
          rintro e w' ⟨rfl, rfl⟩
          go_wp2_with fail
          refine (HP.out _).mono ?_
          rintro e w' ⟨rfl, rfl⟩
          go_wp2
          go_round
          case rel => exact ⟨k + 1, l ++ [48], by go_num, by omega, by rw [HC0.out], HL0.out, HN2⟩
          case measure => simp [intOf]; omega
        · rw [hP] at HP HN
          have HN2 : Hid (l ++ [49] = joinTo (bl a) (bl b) (k + 1)) := Lib.hid HN.out.symm
          clear hO hP HN
          go_wp2_with fail
          refine (HO.out _).mono ?_
          rintro e w' ⟨rfl, rfl⟩
          go_wp2_with fail
          refine (HP.out _).mono ?_
          rintro e w' ⟨rfl, rfl⟩
          go_wp2
          go_round
          case rel => exact ⟨k + 1, l ++ [49], by go_num, by omega, by rw [HC1.out], HL1.out, HN2⟩
          case measure => simp [intOf]; omega
      · rw [hO, Bool.true_or] at HN
        rw [hO] at HO
        have HN2 : Hid (l ++ [49] = joinTo (bl a) (bl b) (k + 1)) := Lib.hid HN.out.symm
        clear hO HN
        go_wp2_with fail
        refine (HO.out _).mono ?_
        rintro e w' ⟨rfl, rfl⟩
        go_wp2
        go_round
        case rel => exact ⟨k + 1, l ++ [49], by go_num, by omega, by rw [HC1.out], HL1.out, HN2⟩
        case measure => simp [intOf]; omega
    · have HE : Hid (joinTo (bl a) (bl b) a.size = l) := Lib.hid (by rw [HL.out]; congr 1; omega)
      clear hl
      go_wp2
      (first | go_ret | go_ret2)
      exact ⟨by first | (rw [HE.out]; rfl) | rw [HE.out], HB2.out⟩
theorem joinLines_yes (a b : ByteArray) (w : World) (ha : a.size ≤ 1048576) (hb : b.size ≤ 1048576) (h1 : lineL (bl a) = true) (h2 : lineL (bl b) = true) (m : Nat) (hm : m = if a.size < b.size then b.size else a.size) :
    Calls Tryd.prog 30 #[.string a, .string b] w fun e w' => e = .returned (.tuple #[.string ⟨(joinTo (bl a) (bl b) m).toArray⟩, .bool true]) ∧ Below w.heap.size w w' := by
  by_cases hab : a.size < b.size
  · rw [if_pos hab] at hm
    subst hm
    exact joinLines_yesA a b w ha hb h1 h2 (by omega)
  · rw [if_neg hab] at hm
    subst hm
    exact joinLines_yesB a b w ha hb h1 h2 (by omega)
theorem sJoinLines_yes (a b : ByteArray) (w : World) (ha : a.size ≤ 1048576) (hb : b.size ≤ 1048576) (h1 : lineL (bl a) = true) (h2 : lineL (bl b) = true) (m : Nat) (hm : m = if a.size < b.size then b.size else a.size) :
    Calls Tryd.prog 29 #[.string a, .string b] w fun e w' => e = .returned (.tuple #[.string ⟨(joinTo (bl a) (bl b) m).toArray⟩, .bool true]) ∧ Below w.heap.size w w' := by
  have la : a.size ≤ 200 := by have := line_len h1; rwa [bl_len] at this
  have lb : b.size ≤ 200 := by have := line_len h2; rwa [bl_len] at this
  have HA := sLine_is a true ha h1
  have HC := sLine_is b true hb h2
  have hm3 : (b.size < a.size ∧ m = a.size) ∨ (¬ b.size < a.size ∧ m = b.size) := by
    by_cases hab : a.size < b.size
    · rw [if_pos hab] at hm; exact .inr ⟨by omega, hm⟩
    · rw [if_neg hab] at hm
      by_cases hba : b.size < a.size
      · exact .inl ⟨hba, hm⟩
      · exact .inr ⟨hba, by omega⟩
  clear hm
  have hm4 : m ≤ 200 := by omega
  have HX : Hid (∀ w, Calls Tryd.prog 65 #[.int .i64 a.size, .int .i64 b.size] w fun e w' => e = .returned (.int .i64 (m : Int)) ∧ w' = w) := Lib.hid fun w => (mostS_any a.size b.size w).mono fun e w' ⟨h3, h4⟩ => ⟨by
    rw [h3]
    have : (if (b.size : Int) < (a.size : Int) then (a.size : Int) else (b.size : Int)) = (m : Int) := by split <;> omega
    rw [this], h4⟩
  clear h1 h2 hm3
  go_enter Tryd.func29, Tryd.ntmps29
  go_wp2_with fail
  refine (HA.out _).mono ?_
  rintro e w1 ⟨rfl, hb1⟩
  have HB := Lib.hid hb1
  clear hb1
  go_wp2_with fail
  refine (HC.out _).mono ?_
  rintro e w2 ⟨rfl, hb2⟩
  have HB2 := Lib.hid (HB.out.trans (hb2.mono HB.out.size))
  clear hb2
  go_wp2
  go_loop [6, 7] (fun sv v => ∃ (k : Nat) (l : Bs), v = .int .i64 k ∧ k ≤ m ∧ sv = .string ⟨l.toArray⟩ ∧ l.length = k ∧ Hid (l = joinTo (bl a) (bl b) k)) (fun _ v => m - (intOf v).toNat)
  case atStart => exact ⟨0, [], rfl, Nat.zero_le _, rfl, rfl, Lib.hid rfl⟩
  case round =>
    obtain ⟨k, l, rfl, hk, rfl, hl, HL⟩ := hrel
    by_cases hlt : (k : Int) < (m : Int)
    · have HO := Lib.hid fun w => sOn_any a k w ha (by omega)
      have HP := Lib.hid fun w => sOn_any b k w hb (by omega)
      have HN : Hid (joinTo (bl a) (bl b) (k + 1) = l ++ [beatOf (onAt (bl a) k || onAt (bl b) k)]) := Lib.hid (by rw [joinTo, ← HL.out])
      have HLl : ∀ d, Hid ((l ++ [d]).length = k + 1) := fun d => Lib.hid (by simp [hl])
      have HL0 := HLl 48
      have HL1 := HLl 49
      have HC0 := Lib.hid (catE l 48)
      have HC1 := Lib.hid (catE l 49)
      have p1 : ¬ 9223372036854775807 < l.length + 1 := by omega
      clear HLl hl
      cases hO : onAt (bl a) k
      · rw [hO] at HO HN
        cases hP : onAt (bl b) k
        · rw [hP] at HP HN
          have HN2 : Hid (l ++ [48] = joinTo (bl a) (bl b) (k + 1)) := Lib.hid HN.out.symm
          clear hO hP HN
          go_wp2_with fail
          refine (HX.out _).mono ?_
          rintro e w' ⟨rfl, rfl⟩
          go_wp2_with fail
          refine (HO.out _).mono ?_
          rintro e w' ⟨rfl, rfl⟩
          go_wp2_with fail
          refine (HP.out _).mono ?_
          rintro e w' ⟨rfl, rfl⟩
          go_wp2
          go_round
          case rel => exact ⟨k + 1, l ++ [48], by go_num, by omega, by rw [HC0.out], HL0.out, HN2⟩
          case measure => simp [intOf]; omega
        · rw [hP] at HP HN
          have HN2 : Hid (l ++ [49] = joinTo (bl a) (bl b) (k + 1)) := Lib.hid HN.out.symm
          clear hO hP HN
          go_wp2_with fail
          refine (HX.out _).mono ?_
          rintro e w' ⟨rfl, rfl⟩
          go_wp2_with fail
          refine (HO.out _).mono ?_
          rintro e w' ⟨rfl, rfl⟩
          go_wp2_with fail
          refine (HP.out _).mono ?_
          rintro e w' ⟨rfl, rfl⟩
          go_wp2
          go_round
          case rel => exact ⟨k + 1, l ++ [49], by go_num, by omega, by rw [HC1.out], HL1.out, HN2⟩
          case measure => simp [intOf]; omega
      · rw [hO, Bool.true_or] at HN
        rw [hO] at HO
        have HN2 : Hid (l ++ [49] = joinTo (bl a) (bl b) (k + 1)) := Lib.hid HN.out.symm
        clear hO HN
        go_wp2_with fail
        refine (HX.out _).mono ?_
        rintro e w' ⟨rfl, rfl⟩
        go_wp2_with fail
        refine (HO.out _).mono ?_
        rintro e w' ⟨rfl, rfl⟩
        go_wp2
        go_round
        case rel => exact ⟨k + 1, l ++ [49], by go_num, by omega, by rw [HC1.out], HL1.out, HN2⟩
        case measure => simp [intOf]; omega
    · have HE : Hid (joinTo (bl a) (bl b) m = l) := Lib.hid (by rw [HL.out]; congr 1; omega)
      clear hl
      go_wp2_with fail
      refine (HX.out _).mono ?_
      rintro e w' ⟨rfl, rfl⟩
      go_wp2
      (first | go_ret | go_ret2)
      exact ⟨by first | (rw [HE.out]; rfl) | rw [HE.out], HB2.out⟩
theorem joinLines_both (a b : ByteArray) (ha : a.size ≤ 1048576) (hb : b.size ≤ 1048576) : ∃ (R0 : ByteArray) (R1 : Bool),
    Hid (∀ W, Calls Tryd.prog 29 #[.string a, .string b] W fun e W' => e = .returned (.tuple #[.string R0, .bool R1]) ∧ Below W.heap.size W W') ∧
    Hid (∀ W, Calls Tryd.prog 30 #[.string a, .string b] W fun e W' => e = .returned (.tuple #[.string R0, .bool R1]) ∧ Below W.heap.size W W') := by
  by_cases h : lineL (bl a) = true ∧ lineL (bl b) = true
  · exact ⟨_, _, fun W => sJoinLines_yes a b W ha hb h.1 h.2 _ rfl, fun W => joinLines_yes a b W ha hb h.1 h.2 _ rfl⟩
  · exact ⟨_, _, fun W => sJoinLines_no a b W ha hb h, fun W => joinLines_no a b W ha hb h⟩

/-! ### LeastDelay -/
theorem least_of {P : Nat → Prop} : ∀ n, P n → ∃ m, m ≤ n ∧ P m ∧ ∀ j, j < m → ¬ P j := by
  intro n
  induction n using Nat.strongRecOn with
  | ind n ih =>
    intro hn
    by_cases h : ∃ j, j < n ∧ P j
    · obtain ⟨j, hj, hp⟩ := h
      obtain ⟨m, h1, h2, h3⟩ := ih j hj hp
      exact ⟨m, by omega, h2, h3⟩
    · exact ⟨n, Nat.le_refl _, hn, fun j hj hp => h ⟨j, hj, hp⟩⟩
theorem least_clash (a b : Bs) : ∃ m, m ≤ a.length ∧ clash a b m = 0 ∧ ∀ j, j < m → 0 < clash a b j := by
  obtain ⟨m, h1, h2, h3⟩ := least_of (P := fun n => clash a b n = 0) a.length (clash_end a b _ (Nat.le_refl _))
  exact ⟨m, h1, h2, fun j hj => Nat.pos_of_ne_zero (h3 j hj)⟩
theorem bl_drop (s : ByteArray) (n : Nat) : bl (s.extract n s.size) = (bl s).drop n := by
  have : (s.extract n s.size).data.toList = ((bl s).take s.size).drop n := by
    simp [ByteArray.data_extract, Array.toList_extract, bl, List.drop_take]
  show (s.extract n s.size).data.toList = _
  rw [this, List.take_of_length_le (by rw [bl_len]; omega)]
theorem clashOf_drop (a b : ByteArray) (n : Nat) (w : World) (ha : a.size ≤ 1048576) (hb : b.size ≤ 1048576) :
    Calls Tryd.prog 68 #[.string (a.extract n a.size), .string b] w fun e w' => e = .returned (.int .i64 ((clash (bl a) (bl b) n : Nat) : Int)) ∧ w' = w := by
  have h1 : (a.extract n a.size).size ≤ 1048576 := by rw [ByteArray.size_extract]; omega
  have h2 : clash (bl (a.extract n a.size)) (bl b) 0 = clash (bl a) (bl b) n := by
    rw [← clash_min, Nat.sub_zero, bl_drop, clash_drop]
  have h3 := clashOf_any (a.extract n a.size) b w h1 hb
  rw [h2] at h3
  exact h3
theorem leastDelay_no (a b : ByteArray) (w : World) (ha : a.size ≤ 1048576) (hb : b.size ≤ 1048576) (h : ¬ (lineL (bl a) = true ∧ lineL (bl b) = true)) :
    Calls Tryd.prog 34 #[.string a, .string b] w fun e w' => e = .returned (.tuple #[.int .i64 0, .bool false]) ∧ Below w.heap.size w w' := by
  cases h1 : lineL (bl a)
  · have HA := isLine_is a false ha h1
    clear h h1
    go_enter Tryd.func34, Tryd.ntmps34
    go_wp2_with fail
    refine (HA.out _).mono ?_
    rintro e w1 ⟨rfl, hb1⟩
    have HB := Lib.hid hb1
    clear hb1
    go_wp2
    (first | go_ret | go_ret2)
    exact ⟨rfl, HB.out⟩
  · have h2 : lineL (bl b) = false := by
      cases h2 : lineL (bl b)
      · rfl
      · exact absurd ⟨h1, h2⟩ h
    have HA := isLine_is a true ha h1
    have HC := isLine_is b false hb h2
    clear h h1 h2
    go_enter Tryd.func34, Tryd.ntmps34
    go_wp2_with fail
    refine (HA.out _).mono ?_
    rintro e w1 ⟨rfl, hb1⟩
    have HB := Lib.hid hb1
    clear hb1
    go_wp2_with fail
    refine (HC.out _).mono ?_
    rintro e w2 ⟨rfl, hb2⟩
    have HB2 := Lib.hid (HB.out.trans (hb2.mono HB.out.size))
    clear hb2
    go_wp2
    (first | go_ret | go_ret2)
    exact ⟨rfl, HB2.out⟩
theorem sLeastDelay_no (a b : ByteArray) (w : World) (ha : a.size ≤ 1048576) (hb : b.size ≤ 1048576) (h : ¬ (lineL (bl a) = true ∧ lineL (bl b) = true)) :
    Calls Tryd.prog 33 #[.string a, .string b] w fun e w' => e = .returned (.tuple #[.int .i64 0, .bool false]) ∧ Below w.heap.size w w' := by
  cases h1 : lineL (bl a)
  · have HA := sLine_is a false ha h1
    clear h h1
    go_enter Tryd.func33, Tryd.ntmps33
    go_wp2_with fail
    refine (HA.out _).mono ?_
    rintro e w1 ⟨rfl, hb1⟩
    have HB := Lib.hid hb1
    clear hb1
    go_wp2
    (first | go_ret | go_ret2)
    exact ⟨rfl, HB.out⟩
  · have h2 : lineL (bl b) = false := by
      cases h2 : lineL (bl b)
      · rfl
      · exact absurd ⟨h1, h2⟩ h
    have HA := sLine_is a true ha h1
    have HC := sLine_is b false hb h2
    clear h h1 h2
    go_enter Tryd.func33, Tryd.ntmps33
    go_wp2_with fail
    refine (HA.out _).mono ?_
    rintro e w1 ⟨rfl, hb1⟩
    have HB := Lib.hid hb1
    clear hb1
    go_wp2_with fail
    refine (HC.out _).mono ?_
    rintro e w2 ⟨rfl, hb2⟩
    have HB2 := Lib.hid (HB.out.trans (hb2.mono HB.out.size))
    clear hb2
    go_wp2
    (first | go_ret | go_ret2)
    exact ⟨rfl, HB2.out⟩
theorem leastDelay_yes (a b : ByteArray) (w : World) (ha : a.size ≤ 1048576) (hb : b.size ≤ 1048576) (h1 : lineL (bl a) = true) (h2 : lineL (bl b) = true) (m : Nat) (hm : m ≤ a.size) (hz : clash (bl a) (bl b) m = 0) (hp : ∀ j, j < m → 0 < clash (bl a) (bl b) j) :
    Calls Tryd.prog 34 #[.string a, .string b] w fun e w' => e = .returned (.tuple #[.int .i64 (m : Int), .bool true]) ∧ Below w.heap.size w w' := by
  have la : a.size ≤ 200 := by have := line_len h1; rwa [bl_len] at this
  have lb : b.size ≤ 200 := by have := line_len h2; rwa [bl_len] at this
  have HA := isLine_is a true ha h1
  have HC := isLine_is b true hb h2
  have HZ := Lib.hid hz
  have HP := Lib.hid hp
  clear hz hp
  clear h1 h2
  go_enter Tryd.func34, Tryd.ntmps34
  go_wp2_with fail
  refine (HA.out _).mono ?_
  rintro e w1 ⟨rfl, hb1⟩
  have HB := Lib.hid hb1
  clear hb1
  go_wp2_with fail
  refine (HC.out _).mono ?_
  rintro e w2 ⟨rfl, hb2⟩
  have HB2 := Lib.hid (HB.out.trans (hb2.mono HB.out.size))
  clear hb2
  go_wp2
  go_loop [6] (fun v => ∃ k : Nat, v = .int .i64 k ∧ k ≤ m) (fun v => m - (intOf v).toNat)
  case atStart => exact ⟨0, rfl, Nat.zero_le _⟩
  case round =>
    obtain ⟨k, rfl, hk⟩ := hrel
    have j1 : k ≤ a.size := by omega
    have HK := Lib.hid fun w => clashOf_drop a b k w ha hb
    by_cases hlt : k < m
    · have hp := HP.out k hlt
      have j2 : (0 : Int) < (clash (bl a) (bl b) k : Int) := by omega
      generalize clash (bl a) (bl b) k = x at HK hp j2
      go_wp2_with fail
      refine (HK.out _).mono ?_
      rintro e w' ⟨rfl, rfl⟩
      go_wp2
      go_round
      case rel => exact ⟨k + 1, by go_num, by omega⟩
      case measure => simp [intOf]; omega
    · obtain rfl : k = m := by omega
      rw [HZ.out] at HK
      go_wp2_with fail
      refine (HK.out _).mono ?_
      rintro e w' ⟨rfl, rfl⟩
      go_wp2
      (first | go_ret | go_ret2)
      exact ⟨rfl, HB2.out⟩
theorem sLeastDelay_yes (a b : ByteArray) (w : World) (ha : a.size ≤ 1048576) (hb : b.size ≤ 1048576) (h1 : lineL (bl a) = true) (h2 : lineL (bl b) = true) (m : Nat) (hm : m ≤ a.size) (hz : clash (bl a) (bl b) m = 0) (hp : ∀ j, j < m → 0 < clash (bl a) (bl b) j) :
    Calls Tryd.prog 33 #[.string a, .string b] w fun e w' => e = .returned (.tuple #[.int .i64 (m : Int), .bool true]) ∧ Below w.heap.size w w' := by
  have la : a.size ≤ 200 := by have := line_len h1; rwa [bl_len] at this
  have lb : b.size ≤ 200 := by have := line_len h2; rwa [bl_len] at this
  have HA := sLine_is a true ha h1
  have HC := sLine_is b true hb h2
  have HZ := Lib.hid hz
  have HP := Lib.hid hp
  clear hz hp
  clear h1 h2
  go_enter Tryd.func33, Tryd.ntmps33
  go_wp2_with fail
  refine (HA.out _).mono ?_
  rintro e w1 ⟨rfl, hb1⟩
  have HB := Lib.hid hb1
  clear hb1
  go_wp2_with fail
  refine (HC.out _).mono ?_
  rintro e w2 ⟨rfl, hb2⟩
  have HB2 := Lib.hid (HB.out.trans (hb2.mono HB.out.size))
  clear hb2
  go_wp2
  go_loop [6] (fun v => ∃ k : Nat, v = .int .i64 k ∧ k ≤ m) (fun v => m - (intOf v).toNat)
  case atStart => exact ⟨0, rfl, Nat.zero_le _⟩
  case round =>
    obtain ⟨k, rfl, hk⟩ := hrel
    have j1 : k ≤ a.size := by omega
    have HK := Lib.hid fun w => sClash_any a b k w ha hb (by omega)
    by_cases hlt : k < m
    · have hp := HP.out k hlt
      have j2 : (0 : Int) < (clash (bl a) (bl b) k : Int) := by omega
      generalize clash (bl a) (bl b) k = x at HK hp j2
      go_wp2_with fail
      refine (HK.out _).mono ?_
      rintro e w' ⟨rfl, rfl⟩
      go_wp2
      go_round
      case rel => exact ⟨k + 1, by go_num, by omega⟩
      case measure => simp [intOf]; omega
    · obtain rfl : k = m := by omega
      rw [HZ.out] at HK
      go_wp2_with fail
      refine (HK.out _).mono ?_
      rintro e w' ⟨rfl, rfl⟩
      go_wp2
      (first | go_ret | go_ret2)
      exact ⟨rfl, HB2.out⟩
theorem leastDelay_both (a b : ByteArray) (ha : a.size ≤ 1048576) (hb : b.size ≤ 1048576) : ∃ (R0 : Int) (R1 : Bool),
    Hid (∀ W, Calls Tryd.prog 33 #[.string a, .string b] W fun e W' => e = .returned (.tuple #[.int .i64 R0, .bool R1]) ∧ Below W.heap.size W W') ∧
    Hid (∀ W, Calls Tryd.prog 34 #[.string a, .string b] W fun e W' => e = .returned (.tuple #[.int .i64 R0, .bool R1]) ∧ Below W.heap.size W W') := by
  by_cases h : lineL (bl a) = true ∧ lineL (bl b) = true
  · obtain ⟨m, h1, h2, h3⟩ := least_clash (bl a) (bl b)
    rw [bl_len] at h1
    exact ⟨_, _, fun W => sLeastDelay_yes a b W ha hb h.1 h.2 m h1 h2 h3, fun W => leastDelay_yes a b W ha hb h.1 h.2 m h1 h2 h3⟩
  · exact ⟨_, _, fun W => sLeastDelay_no a b W ha hb h, fun W => leastDelay_no a b W ha hb h⟩
end Go.Proofs.YtijhfmjkiijhiaaDoor
