/-
  Plain: how many texts of marks take a time. Used by the claims on chapter 8.
-/
import Derived.Test.YtfnklfpcmgjfjaaSeqV
namespace Go.Proofs.Ytfnklfpcmgjfjaa
set_option linter.unusedVariables false

def cbt : Nat → Nat
  | 0 => 0
  | 1 => 1
  | 2 => 0
  | 3 => 2
  | 4 => 0
  | n + 5 => cbt (n + 3) + cbt (n + 1)
theorem cbt_step {n : Nat} (h : 5 ≤ n) : cbt n = cbt (n - 2) + cbt (n - 4) := by
  obtain ⟨k, rfl⟩ : ∃ k, n = k + 5 := ⟨n - 5, by omega⟩
  rw [cbt]
  congr 1
theorem cbt_le : ∀ n, n ≤ 30 → cbt n ≤ 2000 := by decide
def cbtL (n : Nat) : List Nat := (List.range n).map cbt
theorem cbtL_len (n : Nat) : (cbtL n).length = n := by simp [cbtL]
theorem cbtL_succ (n : Nat) : cbtL (n + 1) = cbtL n ++ [cbt n] := by simp [cbtL, List.range_succ]
theorem cbtL_at {n j : Nat} (h : j < n) : (ints (cbtL n))[j]? = some (.int .i64 ((cbt j : Nat) : Int)) := by
  rw [ints_at (by rw [cbtL_len]; exact h)]
  simp [cbtL]
/-- The model's sum: a mark alone, or the last mark with the gap ahead of it. -/
def cbm (n : Nat) : Nat := (if n = 1 then 1 else 0) + (if 2 < n then cbt (n - 2) else 0)
theorem cbm_all : ∀ n, n ≤ 30 → 1 ≤ n → cbt n = (cbm n + if n = 3 then 1 else 0) + (if 4 < n then cbt (n - 4) else 0) := by decide
end Go.Proofs.Ytfnklfpcmgjfjaa
