/-
  l2Encode (the model's): the signal of a message. Used by the claims on chapter 2.
-/
import Derived.Test.YtekgmdigchobbaaWordW
import Derived.Test.YtekgmdigchobbaaMsgB
namespace Go.Proofs.Ytekgmdigchobbaa
open Go.RowKit
set_option linter.unusedVariables false

theorem catE (l : Bs) (b : UInt8) : ((⟨l.toArray⟩ : ByteArray) ++ ⟨#[b]⟩) = ⟨(l ++ [b]).toArray⟩ := by
  apply ByteArray.ext; apply Array.toList_inj.1; simp
theorem catB (l : Bs) (x : ByteArray) : ((⟨l.toArray⟩ : ByteArray) ++ x) = ⟨(l ++ bl x).toArray⟩ := by
  apply ByteArray.ext; apply Array.toList_inj.1; simp [bl]
theorem sizeE (l : Bs) : (⟨l.toArray⟩ : ByteArray).size = l.length := rfl
theorem msgGo_len {n : Nat} {m : Bs} (h : msgL n m = true) : m.length ≤ 12 := by simp only [msgL, Bool.and_eq_true, decide_eq_true_eq] at h; exact h.1
theorem msg_sign {n : Nat} {m : Bs} (h : msgL n m = true) : ∀ u ∈ m, u = 32 ∨ inRow n u = true := by
  have h2 : ∀ (l : Bs) (b : Bool), msgGo n b l = true → ∀ u ∈ l, u = 32 ∨ inRow n u = true := by
    intro l
    induction l with
    | nil => intro b _ u hu; simp at hu
    | cons c r ih =>
      intro b hg u hu
      by_cases hc : c = 32
      · subst hc
        rw [msgGo_space, Bool.and_eq_true] at hg
        rcases List.mem_cons.1 hu with e | e
        · exact .inl e
        · exact ih _ hg.2 u e
      · rw [msgGo_row hc, Bool.and_eq_true] at hg
        rcases List.mem_cons.1 hu with e | e
        · subst e; exact .inr hg.1
        · exact ih _ hg.2 u e
  simp only [msgL, Bool.and_eq_true, Bool.or_eq_true] at h
  rcases h.2 with h3 | h3
  · intro u hu; cases m with
    | nil => simp at hu
    | cons _ _ => simp at h3
  · exact h2 m true h3

end Go.Proofs.Ytekgmdigchobbaa
