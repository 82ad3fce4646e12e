/-
  What a trace is read as. No program. Used by the claims on chapter 5.
-/
import Derived.Test.YtgfmcpipbmnagaaDoorTrcL
import Derived.Test.YtgfmcpipbmnagaaDoorTabT
namespace Go.Proofs.YtgfmcpipbmnagaaDoor
open Go.RowKit
set_option linter.unusedVariables false

def rdB (i x u : Nat) : Bs := if i % 2 = 0 then (if x < 2 * u then [46] else [45]) else if x < 2 * u then [] else if x < 5 * u then [32] else [47]
def rdTo (m : List Nat) (u : Nat) : Nat → Bs
  | 0 => []
  | k + 1 => rdTo m u k ++ rdB k (m.getD k 0) u
theorem rdTo_succ {m : List Nat} {u k : Nat} (h : k < m.length) : rdTo m u (k + 1) = rdTo m u k ++ rdB k m[k] u := by rw [rdTo, getD_tr h]
theorem rdB_len (i x u : Nat) : (rdB i x u).length ≤ 1 := by
  unfold rdB
  repeat' split
  all_goals simp
theorem rdTo_len (m : List Nat) (u : Nat) : ∀ k, (rdTo m u k).length ≤ k
  | 0 => Nat.le_refl _
  | k + 1 => by
    have := rdTo_len m u k
    have := rdB_len k (m.getD k 0) u
    rw [rdTo, List.length_append]
    omega
def rdL (m : List Nat) (u : Nat) : Bs := rdTo m u m.length
/-- The five ways in which a length is read. -/
theorem rd_cases (i x u : Nat) : (i % 2 = 0 ∧ x < 2 * u ∧ tms i x u = 1 ∧ rdB i x u = [46]) ∨ (i % 2 = 0 ∧ ¬ x < 2 * u ∧ tms i x u = 3 ∧ rdB i x u = [45]) ∨ (i % 2 = 1 ∧ x < 2 * u ∧ tms i x u = 1 ∧ rdB i x u = []) ∨ (i % 2 = 1 ∧ (¬ x < 2 * u ∧ x < 5 * u) ∧ tms i x u = 3 ∧ rdB i x u = [32]) ∨ (i % 2 = 1 ∧ (¬ x < 2 * u ∧ ¬ x < 5 * u) ∧ tms i x u = 7 ∧ rdB i x u = [47]) := by
  unfold tms rdB
  rcases (show i % 2 = 0 ∨ i % 2 = 1 by omega) with h | h
  · by_cases h2 : x < 2 * u
    · simp [h, h2]
    · simp [h, h2]
  · by_cases h2 : x < 2 * u
    · simp [h, h2]
    · by_cases h5 : x < 5 * u
      · simp [h, h2, h5]
      · simp [h, h2, h5]
end Go.Proofs.YtgfmcpipbmnagaaDoor
