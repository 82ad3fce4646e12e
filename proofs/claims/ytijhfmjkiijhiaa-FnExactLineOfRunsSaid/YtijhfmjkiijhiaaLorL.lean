/-
  Plain facts on the line of given runs: how it grows run by run, where it fails. No program. Used by the claim on LineOfRuns.
-/
import Derived.Test.YtijhfmjkiijhiaaRunL
namespace Go.Proofs.Ytijhfmjkiijhiaa
set_option linter.unusedVariables false

abbrev Ps := List (Int × Int)
def atP (l : Ps) (k : Nat) : Int × Int := l.getD k (0, 0)
theorem atP_get {l : Ps} {k : Nat} (h : k < l.length) : l[k]? = some (atP l k) := by simp [atP, h]
def runFits (l : Ps) (k n : Nat) : Bool := decide (((atP l k).1 = 0 ∨ (atP l k).1 = 1) ∧ ¬ (0 < k ∧ (atP l k).1 = (atP l (k - 1)).1) ∧ 1 ≤ (atP l k).2 ∧ (atP l k).2 ≤ 200 - (n : Int))
def lorTo (l : Ps) : Nat → Option Bs
  | 0 => some []
  | k + 1 => (lorTo l k).bind fun b => if runFits l k b.length = true then some (b ++ List.replicate (atP l k).2.toNat (byteOf (atP l k).1.toNat)) else none
def lorL (l : Ps) : Option Bs := lorTo l l.length
theorem lor_none {l : Ps} {k : Nat} (h : lorTo l k = none) : ∀ d, lorTo l (k + d) = none
  | 0 => h
  | d + 1 => by rw [← Nat.add_assoc, lorTo, lor_none h d]; rfl
theorem lor_out {l : Ps} {k : Nat} (hk : k < l.length) (h : lorTo l (k + 1) = none) : lorL l = none := by
  have := lor_none h (l.length - (k + 1))
  rwa [Nat.add_sub_cancel' (by omega)] at this
theorem lor_yes {l : Ps} {k : Nat} {b : Bs} (hb : lorTo l k = some b) (h : runFits l k b.length = true) : lorTo l (k + 1) = some (b ++ List.replicate (atP l k).2.toNat (byteOf (atP l k).1.toNat)) := by
  rw [lorTo, hb]; simp [h]
theorem lor_no {l : Ps} {k : Nat} {b : Bs} (hk : k < l.length) (hb : lorTo l k = some b) (h : ¬ (((atP l k).1 = 0 ∨ (atP l k).1 = 1) ∧ ¬ (0 < k ∧ (atP l k).1 = (atP l (k - 1)).1) ∧ 1 ≤ (atP l k).2 ∧ (atP l k).2 ≤ 200 - (b.length : Int))) : lorL l = none := by
  refine lor_out hk ?_
  have hf : runFits l k b.length = false := by unfold runFits; exact decide_eq_false h
  rw [lorTo, hb]; simp [hf]
theorem lor_len {l : Ps} : ∀ {k : Nat} {b : Bs}, lorTo l k = some b → b.length ≤ 200
  | 0, b, h => by cases h; simp
  | k + 1, b, h => by
    rw [lorTo] at h
    cases hb : lorTo l k with
    | none => rw [hb] at h; cases h
    | some c =>
      rw [hb] at h
      have hc := lor_len hb
      simp only [Option.bind_some] at h
      split at h
      · next hf =>
        injection h with h
        subst h
        unfold runFits at hf
        have := of_decide_eq_true hf
        simp only [List.length_append, List.length_replicate]
        omega
      · cases h
end Go.Proofs.Ytijhfmjkiijhiaa
