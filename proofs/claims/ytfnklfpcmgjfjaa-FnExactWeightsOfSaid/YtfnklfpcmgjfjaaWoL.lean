/-
  Plain: how often a message has each letter. Used by the claims on chapter 8.
-/
import Derived.Test.YtfnklfpcmgjfjaaTabT
import Derived.Test.YtfnklfpcmgjfjaaSeqV
namespace Go.Proofs.Ytfnklfpcmgjfjaa
set_option linter.unusedVariables false

theorem woGo_space {n : Nat} {b : Bool} {r : Bs} : msgGo n b (32 :: r) = (!b && msgGo n true r) := by rw [msgGo, if_pos rfl]
theorem woGo_row {n : Nat} {b : Bool} {u : UInt8} {r : Bs} (h : u ≠ 32) : msgGo n b (u :: r) = (inRow n u && msgGo n false r) := by rw [msgGo, if_neg h]
theorem wo_sign {n : Nat} : ∀ {b : Bool} {m : Bs}, msgGo n b m = true → ∀ u ∈ m, u = 32 ∨ inRow n u = true
  | _, [], _, u, hu => by cases hu
  | b, c :: r, h, u, hu => by
    by_cases hc : c = 32
    · subst hc
      rw [woGo_space, Bool.and_eq_true] at h
      rcases List.mem_cons.1 hu with rfl | hu
      · exact .inl rfl
      · exact wo_sign h.2 u hu
    · rw [woGo_row hc, Bool.and_eq_true] at h
      rcases List.mem_cons.1 hu with rfl | hu
      · exact .inr h.1
      · exact wo_sign h.2 u hu
theorem wo_signM {n : Nat} {m : Bs} (h : msgL n m = true) : m.length ≤ 12 ∧ ∀ u ∈ m, u = 32 ∨ inRow n u = true := by
  simp only [msgL, Bool.and_eq_true, Bool.or_eq_true, decide_eq_true_eq] at h
  refine ⟨h.1, fun u hu => ?_⟩
  rcases h.2 with h2 | h2
  · rw [List.isEmpty_iff] at h2; subst h2; cases hu
  · exact wo_sign h2 u hu
/-- How often a letter stands among signs. -/
def woN (m : Bs) (j : Nat) : Nat := m.countP fun u => u.toNat == 97 + j
theorem woN_le (m : Bs) (j : Nat) : woN m j ≤ m.length := List.countP_le_length
theorem woN_snoc (m : Bs) (u : UInt8) (j : Nat) : woN (m ++ [u]) j = woN m j + if u.toNat = 97 + j then 1 else 0 := by
  unfold woN
  rw [List.countP_append]
  congr 1
  by_cases h : u.toNat = 97 + j
  · simp [h]
  · simp [h]
def woL (n : Nat) (m : Bs) : List Nat := (List.range n).map (woN m)
theorem woL_len (n : Nat) (m : Bs) : (woL n m).length = n := by simp [woL]
theorem woL_at {n j : Nat} (m : Bs) (h : j < n) : (ints (woL n m))[j]? = some (.int .i64 ((woN m j : Nat) : Int)) := by
  rw [ints_at (by rw [woL_len]; exact h)]
  simp [woL]
end Go.Proofs.Ytfnklfpcmgjfjaa
