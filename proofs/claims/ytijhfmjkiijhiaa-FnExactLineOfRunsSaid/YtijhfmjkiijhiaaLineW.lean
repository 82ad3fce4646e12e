/-
  Contracts of IsLine, isOnAt, clashOf (the program's) and of l4Line, l4On, l4Clash, l4Many (the model's): lines, where they are on, clashes. Used by the claims on chapter 4.
-/
import Derived.Test.YtijhfmjkiijhiaaUnitL
import Derived.Test.YtijhfmjkiijhiaaSignW
import Derived.Test.YtijhfmjkiijhiaaEncS0
namespace Go.Proofs.Ytijhfmjkiijhiaa
open Go.RowKit
set_option linter.unusedVariables false

theorem beat_iff (c : UInt8) : isBeat c = decide (c.toNat = 48 ∨ c.toNat = 49) := by
  unfold isBeat
  have e : ∀ d : UInt8, (c == d) = decide (c.toNat = d.toNat) := fun d => by
    by_cases h : c = d
    · subst h; simp
    · have : c.toNat ≠ d.toNat := fun e => h (UInt8.toNat_inj.1 e)
      rw [beq_false_of_ne h]; simp [this]
  rw [e, e, Bool.decide_or]; rfl

/-! ### The model's -/
theorem sMany_any (t : ByteArray) (c : UInt8) (n : Int) (w : World) (ht : t = ⟨#[c]⟩) (hn : n ≤ 1048576) :
    Calls Try.prog 20 #[.string t, .int .i64 n] w fun e w' => e = .returned (.string ⟨(reps n.toNat c).toArray⟩) ∧ w' = w := by
  subst ht
  go_enter Try.func20, Try.ntmps20
  go_wp2
  go_loop [5, 6] (fun sv v => ∃ (k : Nat) (l : Bs), v = .int .i64 k ∧ k ≤ n.toNat ∧ sv = .string ⟨l.toArray⟩ ∧ l.length = k ∧ Hid (l = List.replicate k c)) (fun _ v => n.toNat - (intOf v).toNat)
  case atStart => exact ⟨0, [], rfl, Nat.zero_le _, rfl, rfl, Lib.hid rfl⟩
  case round =>
    obtain ⟨k, l, rfl, hk, rfl, hl, HL⟩ := hrel
    by_cases hlt : (k : Int) < n
    · have HN : Hid (l ++ [c] = List.replicate (k + 1) c) := Lib.hid (by rw [HL.out, List.replicate_succ'])
      have HCt := Lib.hid (catE l c)
      have HLl : Hid ((l ++ [c]).length = k + 1) := Lib.hid (by simp [hl])
      have p1 : ¬ 9223372036854775807 < l.length + 1 := by omega
      clear hl
      go_wp2
      go_round
      case rel => exact ⟨k + 1, l ++ [c], by go_num, by omega, by rw [HCt.out], HLl.out, HN⟩
      case measure => simp [intOf]; omega
    · have HE : Hid (reps n.toNat c = l) := Lib.hid (by rw [HL.out, reps]; congr 1; omega)
      clear hl
      go_wp2
      go_ret
      exact ⟨by first | (rw [HE.out]; rfl) | rw [HE.out], rfl⟩

/-! ### The program's -/
end Go.Proofs.Ytijhfmjkiijhiaa
