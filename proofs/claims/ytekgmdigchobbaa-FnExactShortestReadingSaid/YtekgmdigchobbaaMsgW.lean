/-
  Contracts of isLetterOf, isMessageOf, IsMessage (the program's) and of l2Message, IsMessage (the model's). Used by the claims on chapter 2.
-/
import Derived.Test.YtekgmdigchobbaaIsTableB
import Derived.Test.YtekgmdigchobbaaShelf
namespace Go.Proofs.Ytekgmdigchobbaa
open Go.RowKit
set_option linter.unusedVariables false

theorem msgGo_last (n : Nat) (l : Bs) : ∀ b, msgGo n b (l ++ [32]) = false := by
  induction l with
  | nil => intro b; simp [msgGo]
  | cons c l ih =>
    intro b
    rw [List.cons_append, msgGo]
    split <;> simp [ih]
theorem hasSpace (l : Bs) : Lib.hasSuffix l [32] = true ↔ ∃ k, l = k ++ [32] := by
  unfold Lib.hasSuffix
  first
    | (rw [List.isSuffixOf_iff_suffix]; exact ⟨fun ⟨k, e⟩ => ⟨k, e.symm⟩, fun ⟨k, e⟩ => ⟨k, e.symm⟩⟩)
    | (simp only [decide_eq_true_eq]; exact ⟨fun ⟨k, e⟩ => ⟨k, e.symm⟩, fun ⟨k, e⟩ => ⟨k, e.symm⟩⟩)

theorem isLetter_at (n r : Nat) (hn : n ≤ 1048576) (hr : r ≤ 2147483647) (w : World) : Calls Try.prog 135 #[.int .i64 n, .int .i32 r] w fun e w' => e = .returned (.bool (decide (97 ≤ r) && decide (r < 97 + n))) ∧ w' = w := by
  by_cases h1 : 97 ≤ r
  · by_cases h2 : r < 97 + n
    · have HD : Hid ((decide (97 ≤ r) && decide (r < 97 + n)) = true) := Lib.hid (by simp [h1, h2])
      have e1 : (97 : Int) ≤ (r : Int) := by omega
      have e2 : (r : Int) < 97 + (n : Int) := by omega
      rw [HD.out]
      go_enter Try.func135, Try.ntmps135
      go_wp2
      go_ret
      exact ⟨rfl, rfl⟩
    · have HD : Hid ((decide (97 ≤ r) && decide (r < 97 + n)) = false) := Lib.hid (by simp [h2])
      have e1 : (97 : Int) ≤ (r : Int) := by omega
      have e2 : ¬ (r : Int) < 97 + (n : Int) := by omega
      rw [HD.out]
      go_enter Try.func135, Try.ntmps135
      go_wp2
      go_ret
      exact ⟨rfl, rfl⟩
  · have HD : Hid ((decide (97 ≤ r) && decide (r < 97 + n)) = false) := Lib.hid (by simp [h1])
    have e1 : ¬ (97 : Int) ≤ (r : Int) := by omega
    rw [HD.out]
    go_enter Try.func135, Try.ntmps135
    go_wp2
    go_ret
    exact ⟨rfl, rfl⟩

theorem drop_at (s : ByteArray) (k : Nat) (h : k < s.size) : (bl s).drop k = s[k] :: (bl s).drop (k + 1) := by
  have h2 : k < (bl s).length := by rw [bl_len]; exact h
  rw [List.drop_eq_getElem_cons h2]
  have := bl_at s k h
  rw [List.getElem?_eq_getElem h2] at this
  rw [Option.some.inj this]
theorem u8_eq {c : UInt8} {k : Nat} (h : c.toNat = k) (hk : k < 256) : c = UInt8.ofNat k := by
  apply UInt8.toNat_inj.1
  rw [UInt8.toNat_ofNat', h, Nat.mod_eq_of_lt hk]
theorem inRow_iff (n : Nat) (c : UInt8) : inRow n c = (decide (97 ≤ c.toNat) && decide (c.toNat < 97 + n)) := rfl

end Go.Proofs.Ytekgmdigchobbaa
