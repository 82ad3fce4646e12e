/-
  Contracts of IsLine, isOnAt, clashOf (the program's) and of l4Line, l4On, l4Clash, l4Many (the model's): lines, where they are on, clashes. Used by the claims on chapter 4.
-/
import Derived.Test.YtijhfmjkiijhiaaDoorUnitL
import Derived.Test.YtijhfmjkiijhiaaDoorSignW
import Derived.Test.YtijhfmjkiijhiaaDoorEncS0
namespace Go.Proofs.YtijhfmjkiijhiaaDoor
open Go.RowKit
set_option linter.unusedVariables false

theorem beat_iff (c : UInt8) : isBeat c = decide (c.toNat = 48 ∨ c.toNat = 49) := by
  unfold isBeat
  have e : ∀ d : UInt8, (c == d) = decide (c.toNat = d.toNat) := fun d => by
    by_cases h : c = d
    · subst h; simp
    · have : c.toNat ≠ d.toNat := fun e => h (UInt8.toNat_inj.1 e)
      rw [beq_false_of_ne h]; simp [this]
  rw [e, e, Bool.decide_or]; rfl

/-! ### The model's -/
theorem sLine_any (s : ByteArray) (w : World) (hs : s.size ≤ maxLen) :
    Calls Tryd.prog 52 #[.string s] w fun e w' => e = .returned (.bool (lineL (bl s))) ∧ ∃ q, w' = w.drewN q := by
  unfold maxLen at hs
  go_enter Tryd.func52, Tryd.ntmps52
  go_wp2
  go_loopw [3] (fun v wr => ∃ (k q : Nat), v = .int .i64 k ∧ k ≤ s.size ∧ k ≤ 201 ∧ Hid (((bl s).take k).all isBeat = true) ∧ wr = w.drewN q) (fun v _ => s.size - (intOf v).toNat)
  case atStart => exact ⟨0, 0, rfl, Nat.zero_le _, by omega, Lib.hid (by simp), rfl⟩
  case round =>
    obtain ⟨k, q, rfl, hk, hk41, HA, rfl⟩ := hrel
    by_cases hlt : k < s.size
    · by_cases h5 : k ≤ 200
      · have HBy := Lib.hid (bl_at s k hlt)
        by_cases hmk : isBeat s[k] = true
        · have HN : Hid (((bl s).take (k + 1)).all isBeat = true) := Lib.hid (by
            rw [List.take_add_one, HBy.out, List.all_append, HA.out]; simp [hmk])
          rw [beat_iff] at hmk
          simp only [decide_eq_true_eq] at hmk
          rcases hmk with hmk | hmk
          · have e1 : ((s[k].toNat : Int) == 48) = true := by simp; omega
            have e2 : ((s[k].toNat : Int) != 48) = false := by simp; omega
            clear hmk
            go_wp2
            go_roundw
            case rel => exact ⟨k + 1, q, by go_num, by omega, by omega, HN, rfl⟩
            case measure => simp [intOf]; omega
          · have e1 : ((s[k].toNat : Int) == 48) = false := beq_false_of_ne (by omega)
            have e2 : ((s[k].toNat : Int) != 48) = true := by rw [bne, e1]; rfl
            have e3 : ((s[k].toNat : Int) == 49) = true := by simp; omega
            have e4 : ((s[k].toNat : Int) != 49) = false := by rw [bne, e3]; rfl
            clear hmk
            go_wp2
            go_roundw
            case rel => exact ⟨k + 1, q, by go_num, by omega, by omega, HN, rfl⟩
            case measure => simp [intOf]; omega
        · have HF : Hid (lineL (bl s) = false) := Lib.hid (by
            rw [Bool.eq_false_iff]
            intro h
            simp only [lineL, Bool.and_eq_true] at h
            exact hmk (List.all_eq_true.1 h.2 _ (List.mem_of_getElem? HBy.out)))
          rw [beat_iff] at hmk
          simp only [decide_eq_true_eq, not_or] at hmk
          obtain ⟨m1, m2⟩ := hmk
          have e1 : ((s[k].toNat : Int) == 48) = false := beq_false_of_ne (by omega)
          have e2 : ((s[k].toNat : Int) != 48) = true := by rw [bne, e1]; rfl
          have e3 : ((s[k].toNat : Int) == 49) = false := beq_false_of_ne (by omega)
          have e4 : ((s[k].toNat : Int) != 49) = true := by rw [bne, e3]; rfl
          clear m1 m2
          go_wp2
          go_ret
          exact ⟨by rw [HF.out]; rfl, q, rfl⟩
      · have HF : Hid (lineL (bl s) = decide ((s.size : Int) ≤ 200)) := Lib.hid (by
          have h1 : ¬ (s.size : Int) ≤ 200 := by omega
          have h2 : ¬ s.size ≤ 200 := by omega
          simp [lineL, bl_len, h1, h2])
        have h6 : ¬ (s.size : Int) ≤ 200 := by omega
        go_wp2
        go_ret
        exact ⟨by rw [HF.out]; simp [h6], q, rfl⟩
    · have HF : Hid (lineL (bl s) = decide (s.size ≤ 200)) := Lib.hid (by
        have h1 := HA.out
        rw [List.take_of_length_le (by rw [bl_len]; omega)] at h1
        simp only [lineL, bl_len, h1, Bool.and_true])
      by_cases h6 : (s.size : Int) ≤ 200
      · have h7 : s.size ≤ 200 := by omega
        go_wp2
        go_ret
        exact ⟨by rw [HF.out]; simp [h7], q, rfl⟩
      · have h7 : ¬ s.size ≤ 200 := by omega
        go_wp2
        go_ret
        exact ⟨by rw [HF.out]; simp [h7], q, rfl⟩

theorem sOn_any (s : ByteArray) (i : Nat) (w : World) (hs : s.size ≤ 1048576) (hi : i ≤ 2097152) :
    Calls Tryd.prog 60 #[.string s, .int .i64 i] w fun e w' => e = .returned (.bool (onAt (bl s) i)) ∧ w' = w := by
  have HIn := Lib.hid fun w => in_any i 0 ((s.size : Int) - 1) w
  have q1 : (0 : Int) ≤ (s.size : Int) := by omega
  by_cases hlt : i < s.size
  · have HIn2 : Hid (∀ w, Calls Tryd.prog 62 #[.int .i64 i, .int .i64 0, .int .i64 ((s.size : Int) - 1)] w fun e w' => e = .returned (.bool true) ∧ w' = w) := Lib.hid fun w => (HIn.out w).mono fun e w' ⟨h1, h2⟩ => ⟨by
      rw [h1]
      have e1 : decide ((0 : Int) ≤ (i : Int)) = true := decide_eq_true (by omega)
      have e2 : decide ((i : Int) ≤ (s.size : Int) - 1) = true := decide_eq_true (by omega)
      rw [e1, e2]; rfl, h2⟩
    have HR : Hid (onAt (bl s) i = (s[i] == 49)) := Lib.hid (onAt_some (bl_at s i hlt))
    rw [HR.out]
    clear HIn
    by_cases h1 : s[i] = 49
    · have e1 : ((s[i].toNat : Int) == 49) = true := by rw [h1]; rfl
      have HT : Hid ((s[i] == 49) = true) := Lib.hid (by rw [h1]; rfl)
      rw [HT.out]
      clear h1
      go_enter Tryd.func60, Tryd.ntmps60
      go_wp2_with fail
      refine (HIn2.out _).mono ?_
      rintro e w' ⟨rfl, rfl⟩
      go_wp2
      go_ret
      exact ⟨rfl, rfl⟩
    · have e1 : ((s[i].toNat : Int) == 49) = false := beq_false_of_ne (fun e => h1 (u8_eq0 (k := 49) (by omega) (by decide)))
      have HT : Hid ((s[i] == 49) = false) := Lib.hid (beq_false_of_ne h1)
      rw [HT.out]
      clear h1
      go_enter Tryd.func60, Tryd.ntmps60
      go_wp2_with fail
      refine (HIn2.out _).mono ?_
      rintro e w' ⟨rfl, rfl⟩
      go_wp2
      go_ret
      exact ⟨rfl, rfl⟩
  · have HIn2 : Hid (∀ w, Calls Tryd.prog 62 #[.int .i64 i, .int .i64 0, .int .i64 ((s.size : Int) - 1)] w fun e w' => e = .returned (.bool false) ∧ w' = w) := Lib.hid fun w => (HIn.out w).mono fun e w' ⟨h1, h2⟩ => ⟨by
      rw [h1]
      have e2 : decide ((i : Int) ≤ (s.size : Int) - 1) = false := decide_eq_false (by omega)
      rw [e2, Bool.and_false], h2⟩
    have HR : Hid (onAt (bl s) i = false) := Lib.hid (onAt_out (by rw [bl_len]; omega))
    rw [HR.out]
    clear HIn hlt
    go_enter Tryd.func60, Tryd.ntmps60
    go_wp2_with fail
    refine (HIn2.out _).mono ?_
    rintro e w' ⟨rfl, rfl⟩
    go_wp2
    go_ret
    exact ⟨rfl, rfl⟩

theorem sClash_any (a b : ByteArray) (n : Nat) (w : World) (ha : a.size ≤ 1048576) (hb : b.size ≤ 1048576) (hn : n ≤ 1048576) :
    Calls Tryd.prog 67 #[.string a, .string b, .int .i64 n] w fun e w' => e = .returned (.int .i64 ((clash (bl a) (bl b) n : Nat) : Int)) ∧ w' = w := by
  have HR : Hid (clash (bl a) (bl b) n = clashTo (bl a) (bl b) n b.size) := Lib.hid (by rw [clash, bl_len])
  rw [HR.out]
  go_enter Tryd.func67, Tryd.ntmps67
  go_wp2
  go_loop [7, 8] (fun m v => ∃ (k mm : Nat), v = .int .i64 k ∧ k ≤ b.size ∧ m = .int .i64 mm ∧ mm ≤ k ∧ Hid (mm = clashTo (bl a) (bl b) n k)) (fun _ v => b.size - (intOf v).toNat)
  case atStart => exact ⟨0, 0, rfl, Nat.zero_le _, rfl, Nat.le_refl _, Lib.hid rfl⟩
  case round =>
    obtain ⟨k, mm, rfl, hk, rfl, hmm, HM⟩ := hrel
    by_cases hlt : k < b.size
    · have HB := Lib.hid fun w => sOn_any b k w hb (by omega)
      have HA := Lib.hid fun w => sOn_any a (k + n) w ha (by omega)
      have HN : Hid (clashTo (bl a) (bl b) n (k + 1) = mm + (if (onAt (bl b) k && onAt (bl a) (k + n)) = true then 1 else 0)) := Lib.hid (by rw [clashTo, ← HM.out])
      have HC : Hid (((k + n : Nat) : Int) = (k : Int) + (n : Int)) := Lib.hid (by omega)
      rw [HC.out] at HA
      have q0 : (0 : Int) ≤ (n : Int) := by omega
      cases hB : onAt (bl b) k
      · rw [hB] at HB HN
        have HN2 : Hid (mm = clashTo (bl a) (bl b) n (k + 1)) := Lib.hid (by rw [HN.out]; simp)
        clear hB HN HC
        go_wp2_with fail
        refine (HB.out _).mono ?_
        rintro e w' ⟨rfl, rfl⟩
        go_wp2
        go_round
        case rel => exact ⟨k + 1, mm, by go_num, by omega, rfl, by omega, HN2⟩
        case measure => simp [intOf]; omega
      · rw [hB] at HB HN
        cases hA : onAt (bl a) (k + n)
        · rw [hA] at HA HN
          have HN2 : Hid (mm = clashTo (bl a) (bl b) n (k + 1)) := Lib.hid (by rw [HN.out]; simp)
          clear hB hA HN HC
          go_wp2_with fail
          refine (HB.out _).mono ?_
          rintro e w' ⟨rfl, rfl⟩
          go_wp2_with fail
          refine (HA.out _).mono ?_
          rintro e w' ⟨rfl, rfl⟩
          go_wp2
          go_round
          case rel => exact ⟨k + 1, mm, by go_num, by omega, rfl, by omega, HN2⟩
          case measure => simp [intOf]; omega
        · rw [hA] at HA HN
          have HN2 : Hid (mm + 1 = clashTo (bl a) (bl b) n (k + 1)) := Lib.hid (by rw [HN.out]; simp)
          clear hB hA HN HC
          go_wp2_with fail
          refine (HB.out _).mono ?_
          rintro e w' ⟨rfl, rfl⟩
          go_wp2_with fail
          refine (HA.out _).mono ?_
          rintro e w' ⟨rfl, rfl⟩
          go_wp2
          go_round
          case rel => exact ⟨k + 1, mm + 1, by go_num, by omega, by go_num, by omega, HN2⟩
          case measure => simp [intOf]; omega
    · have HE : Hid (clashTo (bl a) (bl b) n b.size = mm) := Lib.hid (by rw [HM.out]; congr 1; omega)
      go_wp2
      go_ret
      exact ⟨by first | (rw [HE.out]; rfl) | rw [HE.out], rfl⟩

theorem sMany_any (t : ByteArray) (c : UInt8) (n : Int) (w : World) (ht : t = ⟨#[c]⟩) (hn : n ≤ 1048576) :
    Calls Tryd.prog 63 #[.string t, .int .i64 n] w fun e w' => e = .returned (.string ⟨(reps n.toNat c).toArray⟩) ∧ w' = w := by
  subst ht
  go_enter Tryd.func63, Tryd.ntmps63
  go_wp2
  go_loop [5, 6] (fun sv v => ∃ (k : Nat) (l : Bs), v = .int .i64 k ∧ k ≤ n.toNat ∧ sv = .string ⟨l.toArray⟩ ∧ l.length = k ∧ Hid (l = List.replicate k c)) (fun _ v => n.toNat - (intOf v).toNat)
  case atStart => exact ⟨0, [], rfl, Nat.zero_le _, rfl, rfl, Lib.hid rfl⟩
  case round =>
    obtain ⟨k, l, rfl, hk, rfl, hl, HL⟩ := hrel
    by_cases hlt : (k : Int) < n
    · have HN : Hid (l ++ [c] = List.replicate (k + 1) c) := Lib.hid (by rw [HL.out, List.replicate_succ'])
      have HCt := Lib.hid (catE l c)
      have HLl : Hid ((l ++ [c]).length = k + 1) := Lib.hid (by simp [hl])
      have p1 : ¬ 9223372036854775807 < l.length + 1 := by omega
      clear hl
      go_wp2
      go_round
      case rel => exact ⟨k + 1, l ++ [c], by go_num, by omega, by rw [HCt.out], HLl.out, HN⟩
      case measure => simp [intOf]; omega
    · have HE : Hid (reps n.toNat c = l) := Lib.hid (by rw [HL.out, reps]; congr 1; omega)
      clear hl
      go_wp2
      go_ret
      exact ⟨by first | (rw [HE.out]; rfl) | rw [HE.out], rfl⟩

/-! ### The program's -/
theorem isOnAt_any (s : ByteArray) (i : Nat) (w : World) (hs : s.size ≤ 1048576) (hi : i ≤ 2097152) :
    Calls Tryd.prog 66 #[.string s, .int .i64 i] w fun e w' => e = .returned (.bool (onAt (bl s) i)) ∧ w' = w := by
  by_cases hlt : i < s.size
  · have HR : Hid (onAt (bl s) i = (s[i] == 49)) := Lib.hid (onAt_some (bl_at s i hlt))
    rw [HR.out]
    have HX := Lib.hid (extract_one s i hlt)
    obtain ⟨c, hc⟩ : ∃ c, s[i] = c := ⟨_, rfl⟩
    rw [hc] at HX
    rw [hc]
    clear hc
    have j0 : (0 : Int) ≤ (i : Int) := by omega
    by_cases h1 : c = 49
    · have e1 : ((s.extract i (i + 1)).toList == [49]) = true := by rw [HX.out, h1]; rfl
      have HT : Hid ((c == 49) = true) := Lib.hid (by rw [h1]; rfl)
      rw [HT.out]
      clear h1
      go_enter Tryd.func66, Tryd.ntmps66
      go_wp2
      go_ret
      exact ⟨rfl, rfl⟩
    · have e1 : ((s.extract i (i + 1)).toList == [49]) = false := by
        rw [HX.out]
        exact beq_false_of_ne (by simpa using h1)
      have HT : Hid ((c == 49) = false) := Lib.hid (beq_false_of_ne h1)
      rw [HT.out]
      clear h1
      go_enter Tryd.func66, Tryd.ntmps66
      go_wp2
      go_ret
      exact ⟨rfl, rfl⟩
  · have HR : Hid (onAt (bl s) i = false) := Lib.hid (onAt_out (by rw [bl_len]; omega))
    rw [HR.out]
    have j1 : ¬ (i : Int) < (s.size : Int) := by omega
    go_enter Tryd.func66, Tryd.ntmps66
    go_wp2
    go_ret
    exact ⟨rfl, rfl⟩

theorem clashOf_any (a b : ByteArray) (w : World) (ha : a.size ≤ 1048576) (hb : b.size ≤ 1048576) :
    Calls Tryd.prog 68 #[.string a, .string b] w fun e w' => e = .returned (.int .i64 ((clash (bl a) (bl b) 0 : Nat) : Int)) ∧ w' = w := by
  by_cases hab : (b.size : Int) < (a.size : Int)
  · have h0 : b.size ≤ a.size ∨ a.size ≤ b.size := by omega
    have HR : Hid (clash (bl a) (bl b) 0 = clashTo (bl a) (bl b) 0 b.size) := Lib.hid (by
      rw [← clash_min, bl_len, bl_len, Nat.sub_zero]
      congr 1
      exact Nat.min_eq_right (by omega))
    rw [HR.out]
    clear h0
    go_enter Tryd.func68, Tryd.ntmps68
    go_wp2
    go_loop [5, 12] (fun x v => ∃ (k mm : Nat), v = .int .i64 k ∧ k ≤ a.size ∧ k ≤ b.size ∧ x = .int .i64 mm ∧ mm ≤ k ∧ Hid (mm = clashTo (bl a) (bl b) 0 k)) (fun _ v => a.size - (intOf v).toNat)
    case atStart => exact ⟨0, 0, rfl, Nat.zero_le _, Nat.zero_le _, rfl, Nat.le_refl _, Lib.hid rfl⟩
    case round =>
      obtain ⟨k, mm, rfl, hk, hk2, rfl, hmm, HM⟩ := hrel
      by_cases hlt : k < a.size ∧ k < b.size
      · have HB := Lib.hid fun w => isOnAt_any b k w hb (by omega)
        have HA := Lib.hid fun w => isOnAt_any a k w ha (by omega)
        have HN : Hid (clashTo (bl a) (bl b) 0 (k + 1) = mm + (if (onAt (bl b) k && onAt (bl a) k) = true then 1 else 0)) := Lib.hid (by rw [clashTo, ← HM.out]; rfl)
        have hl1 := hlt.1
        have hl2 := hlt.2
        clear hlt
        cases hA : onAt (bl a) k
        · rw [hA] at HA HN
          have HN2 : Hid (mm = clashTo (bl a) (bl b) 0 (k + 1)) := Lib.hid (by rw [HN.out]; simp)
          clear hA HN
          go_wp2_with fail
          refine (HA.out _).mono ?_
          rintro e w' ⟨rfl, rfl⟩
          go_wp2
          go_round
          case rel => exact ⟨k + 1, mm, by go_num, by omega, by omega, rfl, by omega, HN2⟩
          case measure => simp [intOf]; omega
        · rw [hA] at HA HN
          cases hB : onAt (bl b) k
          · rw [hB] at HB HN
            have HN2 : Hid (mm = clashTo (bl a) (bl b) 0 (k + 1)) := Lib.hid (by rw [HN.out]; simp)
            clear hB hA HN
            go_wp2_with fail
            refine (HA.out _).mono ?_
            rintro e w' ⟨rfl, rfl⟩
            go_wp2_with fail
            refine (HB.out _).mono ?_
            rintro e w' ⟨rfl, rfl⟩
            go_wp2
            go_round
            case rel => exact ⟨k + 1, mm, by go_num, by omega, by omega, rfl, by omega, HN2⟩
            case measure => simp [intOf]; omega
          · rw [hB] at HB HN
            have HN2 : Hid (mm + 1 = clashTo (bl a) (bl b) 0 (k + 1)) := Lib.hid (by rw [HN.out]; simp)
            clear hB hA HN
            go_wp2_with fail
            refine (HA.out _).mono ?_
            rintro e w' ⟨rfl, rfl⟩
            go_wp2_with fail
            refine (HB.out _).mono ?_
            rintro e w' ⟨rfl, rfl⟩
            go_wp2
            go_round
            case rel => exact ⟨k + 1, mm + 1, by go_num, by omega, by omega, by go_num, by omega, HN2⟩
            case measure => simp [intOf]; omega
      · have HE : Hid (k = b.size) := Lib.hid (by omega)
        have hx : ¬ (k : Int) < (b.size : Int) := by omega
        clear hlt
        go_wp2
        go_ret
        exact ⟨by first | (rw [← HE.out, ← HM.out]; rfl) | rw [← HE.out, ← HM.out], rfl⟩
  · have h0 : b.size ≤ a.size ∨ a.size ≤ b.size := by omega
    have HR : Hid (clash (bl a) (bl b) 0 = clashTo (bl a) (bl b) 0 a.size) := Lib.hid (by
      rw [← clash_min, bl_len, bl_len, Nat.sub_zero]
      congr 1
      exact Nat.min_eq_left (by omega))
    rw [HR.out]
    clear h0
    go_enter Tryd.func68, Tryd.ntmps68
    go_wp2
    go_loop [5, 12] (fun x v => ∃ (k mm : Nat), v = .int .i64 k ∧ k ≤ a.size ∧ k ≤ b.size ∧ x = .int .i64 mm ∧ mm ≤ k ∧ Hid (mm = clashTo (bl a) (bl b) 0 k)) (fun _ v => a.size - (intOf v).toNat)
    case atStart => exact ⟨0, 0, rfl, Nat.zero_le _, Nat.zero_le _, rfl, Nat.le_refl _, Lib.hid rfl⟩
    case round =>
      obtain ⟨k, mm, rfl, hk, hk2, rfl, hmm, HM⟩ := hrel
      by_cases hlt : k < a.size ∧ k < b.size
      · have HB := Lib.hid fun w => isOnAt_any b k w hb (by omega)
        have HA := Lib.hid fun w => isOnAt_any a k w ha (by omega)
        have HN : Hid (clashTo (bl a) (bl b) 0 (k + 1) = mm + (if (onAt (bl b) k && onAt (bl a) k) = true then 1 else 0)) := Lib.hid (by rw [clashTo, ← HM.out]; rfl)
        have hl1 := hlt.1
        have hl2 := hlt.2
        clear hlt
        cases hA : onAt (bl a) k
        · rw [hA] at HA HN
          have HN2 : Hid (mm = clashTo (bl a) (bl b) 0 (k + 1)) := Lib.hid (by rw [HN.out]; simp)
          clear hA HN
          go_wp2_with fail
          refine (HA.out _).mono ?_
          rintro e w' ⟨rfl, rfl⟩
          go_wp2
          go_round
          case rel => exact ⟨k + 1, mm, by go_num, by omega, by omega, rfl, by omega, HN2⟩
          case measure => simp [intOf]; omega
        · rw [hA] at HA HN
          cases hB : onAt (bl b) k
          · rw [hB] at HB HN
            have HN2 : Hid (mm = clashTo (bl a) (bl b) 0 (k + 1)) := Lib.hid (by rw [HN.out]; simp)
            clear hB hA HN
            go_wp2_with fail
            refine (HA.out _).mono ?_
            rintro e w' ⟨rfl, rfl⟩
            go_wp2_with fail
            refine (HB.out _).mono ?_
            rintro e w' ⟨rfl, rfl⟩
            go_wp2
            go_round
            case rel => exact ⟨k + 1, mm, by go_num, by omega, by omega, rfl, by omega, HN2⟩
            case measure => simp [intOf]; omega
          · rw [hB] at HB HN
            have HN2 : Hid (mm + 1 = clashTo (bl a) (bl b) 0 (k + 1)) := Lib.hid (by rw [HN.out]; simp)
            clear hB hA HN
            go_wp2_with fail
            refine (HA.out _).mono ?_
            rintro e w' ⟨rfl, rfl⟩
            go_wp2_with fail
            refine (HB.out _).mono ?_
            rintro e w' ⟨rfl, rfl⟩
            go_wp2
            go_round
            case rel => exact ⟨k + 1, mm + 1, by go_num, by omega, by omega, by go_num, by omega, HN2⟩
            case measure => simp [intOf]; omega
      · have HE : Hid (k = a.size) := Lib.hid (by omega)
        have hx : ¬ (k : Int) < (a.size : Int) := by omega
        clear hlt
        go_wp2
        go_ret
        exact ⟨by first | (rw [← HE.out, ← HM.out]; rfl) | rw [← HE.out, ← HM.out], rfl⟩
end Go.Proofs.YtijhfmjkiijhiaaDoor
