/-
  Contracts of the model's l2Back, l2Opposite: turned marks. Used by the claims on chapter 2.
-/
import Derived.Test.YtfjedcjpgmledaaSDecW
namespace Go.Proofs.Ytfjedcjpgmledaa
open Go.RowKit
set_option linter.unusedVariables false

theorem back_any (s : ByteArray) (w : World) (hs : s.size ≤ 1048576) :
    Calls Try.prog 67 #[.string s] w fun e w' => e = .returned (.string (ba (bl s).reverse)) ∧ w' = w := by
  go_enter Try.func67, Try.ntmps67
  go_wp2
  go_loop [3, 4] (fun t v => ∃ (k : Nat) (l : Bs), v = .int .i64 k ∧ k ≤ s.size ∧ t = .string (ba l) ∧ l.length = k ∧ Hid (l = ((bl s).take k).reverse)) (fun _ v => s.size - (intOf v).toNat)
  case atStart => exact ⟨0, [], rfl, Nat.zero_le _, rfl, rfl, Lib.hid (by simp)⟩
  case round =>
    obtain ⟨k, l, rfl, hk, rfl, hlk, HL⟩ := hrel
    have hz : (ba l).size = k := by rw [ba_len, hlk]
    by_cases hlt : k < s.size
    · have HT : Hid ((bl s).take (k + 1) = (bl s).take k ++ [s[k]]) := Lib.hid (by rw [List.take_add_one, bl_at s k hlt]; rfl)
      have HC : Hid (s.extract k (k + 1) ++ ba l = ba (s[k] :: l)) := Lib.hid (by
        have e : s.extract k (k + 1) = ba [s[k]] := by
          rw [ext_ba, HT.out, List.drop_append]
          have : ((bl s).take k).length = k := by rw [List.length_take, bl_len]; omega
          rw [List.drop_of_length_le (by omega), this]; simp
        rw [e, ba_app]; rfl)
      have hez : (s.extract k (k + 1)).size = 1 := by rw [← bl_len, bl_ext, List.length_drop, List.length_take, bl_len]; omega
      have hcat : ¬ 9223372036854775807 < 1 + k := by omega
      have HN : Hid (s[k] :: l = ((bl s).take (k + 1)).reverse) := Lib.hid (by rw [HT.out, HL.out]; simp)
      have i0 : (0 : Int) ≤ (k : Int) := by omega
      have i1 : (k : Int) + 1 ≤ (s.size : Int) := by omega
      have i2 : (k : Int) ≤ (k : Int) + 1 := by omega
      go_wp2
      go_round
      case rel => exact ⟨k + 1, s[k] :: l, by go_num, by omega, by rw [← HC.out], by simp [hlk], HN⟩
      case measure => simp [intOf]; omega
    · have HE : Hid (l = (bl s).reverse) := Lib.hid (by
        have h1 := HL.out
        rwa [List.take_of_length_le (by rw [bl_len]; omega)] at h1)
      go_wp2
      go_ret
      exact ⟨by rw [← HE.out]; rfl, rfl⟩

theorem opp_any (s : ByteArray) (w : World) (hs : s.size ≤ 1048576) :
    Calls Try.prog 62 #[.string s] w fun e w' => e = .returned (.string (ba (oppL (bl s)))) ∧ w' = w := by
  go_enter Try.func62, Try.ntmps62
  go_wp2
  go_loop [3, 4] (fun t v => ∃ (k : Nat) (l : Bs), v = .int .i64 k ∧ k ≤ s.size ∧ t = .string (ba l) ∧ l.length = k ∧ Hid (l = oppL ((bl s).take k))) (fun _ v => s.size - (intOf v).toNat)
  case atStart => exact ⟨0, [], rfl, Nat.zero_le _, rfl, rfl, Lib.hid (by simp [oppL])⟩
  case round =>
    obtain ⟨k, l, rfl, hk, rfl, hlk, HL⟩ := hrel
    have hz : (ba l).size = k := by rw [ba_len, hlk]
    by_cases hlt : k < s.size
    · have HT : Hid ((bl s).take (k + 1) = (bl s).take k ++ [s[k]]) := Lib.hid (by rw [List.take_add_one, bl_at s k hlt]; rfl)
      have HN : Hid (l ++ [oppC s[k]] = oppL ((bl s).take (k + 1))) := Lib.hid (by rw [HT.out, HL.out]; simp [oppL])
      have hcat : ¬ 9223372036854775807 < k + 1 := by omega
      have i0 : (0 : Int) ≤ (k : Int) := by omega
      have i1 : (k : Int) < (s.size : Int) := by omega
      by_cases hd : s[k] = 46
      · have heq : ((s[k].toNat : Int) == 46) = true := by rw [hd]; rfl
        have HC : Hid (ba l ++ ⟨#[45]⟩ = ba (l ++ [oppC s[k]])) := Lib.hid (by rw [hd]; exact ba_app l [45])
        clear hd
        go_wp2
        go_round
        case rel => exact ⟨k + 1, l ++ [oppC s[k]], by go_num, by omega, by rw [← HC.out], by simp [hlk], HN⟩
        case measure => simp [intOf]; omega
      · have heq : ((s[k].toNat : Int) == 46) = false := beq_false_of_ne (fun e => hd (by apply UInt8.toNat_inj.1; show s[k].toNat = 46; omega))
        have HC : Hid (ba l ++ ⟨#[46]⟩ = ba (l ++ [oppC s[k]])) := Lib.hid (by
          have : oppC s[k] = 46 := by unfold oppC; rw [if_neg hd]
          rw [this]; exact ba_app l [46])
        clear hd
        go_wp2
        go_round
        case rel => exact ⟨k + 1, l ++ [oppC s[k]], by go_num, by omega, by rw [← HC.out], by simp [hlk], HN⟩
        case measure => simp [intOf]; omega
    · have HE : Hid (l = oppL (bl s)) := Lib.hid (by
        have h1 := HL.out
        rwa [List.take_of_length_le (by rw [bl_len]; omega)] at h1)
      go_wp2
      go_ret
      exact ⟨by rw [← HE.out]; rfl, rfl⟩
end Go.Proofs.Ytfjedcjpgmledaa
