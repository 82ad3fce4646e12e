/-
  Contracts of the program's IsSignal, timeOfSign, TimeOfSignal, TimeOfMarks and of the model's l2Time, TimeOfMarks. Used by the claims on chapter 2.
-/
import Derived.Test.YthkafalpjokfeaaPieceW
namespace Go.Proofs.Ythkafalpjokfeaa
open Go.RowKit
set_option linter.unusedVariables false

/-- Each sign of a signal is a mark or a gap. -/
theorem fin_signs (r : Bs) : ∀ (ps : List Bs) (cur : Bs) (qs : List Bs), fin ps cur r = some qs → ∀ c ∈ r, isMk c = true ∨ c = 32 ∨ c = 47 := by
  induction r with
  | nil => intro _ _ _ _ c hc; cases hc
  | cons d r ih =>
    intro ps cur qs h c hc
    rw [fin] at h
    by_cases hd : isMk d = true
    · rw [if_pos hd] at h
      rcases List.mem_cons.1 hc with rfl | hc
      · exact .inl hd
      · exact ih _ _ _ h c hc
    · rw [if_neg hd] at h
      split at h
      · next hg =>
        simp only [Bool.and_eq_true, Bool.or_eq_true, beq_iff_eq] at hg
        rcases List.mem_cons.1 hc with rfl | hc
        · exact .inr hg.1.1
        · exact ih _ _ _ h c hc
      · cases h
theorem pieces_signs {s : Bs} {ps : List Bs} (h : pieces s = some ps) : ∀ c ∈ s, isMk c = true ∨ c = 32 ∨ c = 47 := by
  unfold pieces at h
  split at h
  · next e => intro c hc; rw [e] at hc; cases hc
  · exact fin_signs s _ _ _ h

def sgR (r : Nat) : Nat := if r = 46 then 1 else if r = 45 then 3 else if r = 47 then 7 else 3
theorem sgR_sg (c : UInt8) : sgR c.toNat = sg c := by
  unfold sgR sg
  have e : ∀ d : UInt8, (c.toNat = d.toNat) ↔ c = d := fun d => ⟨fun h => UInt8.toNat_inj.1 h, fun h => by rw [h]⟩
  have e1 : (c.toNat = 46) ↔ c = 46 := e 46
  have e2 : (c.toNat = 45) ↔ c = 45 := e 45
  have e3 : (c.toNat = 47) ↔ c = 47 := e 47
  simp only [e1, e2, e3]

def timeR (s : ByteArray) : Int × Bool := if (pieces (bl s)).isSome = true then (((tmGo false (bl s) : Nat) : Int), true) else (0, false)

end Go.Proofs.Ythkafalpjokfeaa
