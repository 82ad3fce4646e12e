/-
  Plain facts on the hops that a job gets: their begins are the least ones without a clash and bounded. No program. Used by the claims on chapter 10.
-/
import Derived.Test.YtiialbnfgichhaaJobL
namespace Go.Proofs.Ytiialbnfgichhaa
set_option linter.unusedVariables false
theorem seek_le (f : Int → Bool) (b : Int) (hf : f b = true) : ∀ (k : Nat) (t : Int), t ≤ b → b ≤ t + k → t ≤ seek f k t ∧ seek f k t ≤ b ∧ f (seek f k t) = true := by
  intro k
  induction k with
  | zero => intro t h1 h2; simp only [seek]; obtain rfl : t = b := (by omega); exact ⟨Int.le_refl _, Int.le_refl _, hf⟩
  | succ k ih =>
    intro t h1 h2
    simp only [seek]
    by_cases e : f t = true
    · rw [if_pos e]; exact ⟨Int.le_refl _, h1, e⟩
    · rw [if_neg e]
      have hne : t ≠ b := fun h => e (by rw [h]; exact hf)
      obtain ⟨g1, g2, g3⟩ := ih (t + 1) (by omega) (by omega)
      exact ⟨by omega, g2, g3⟩
/-- All hops that are placed have ended by E. -/
def EndBy (l : List Jb) (ps : List Hp) (E : Int) : Prop := ∀ o ∈ ps, en l o ≤ E
theorem free_late {l : List Jb} {ps : List Hp} {E : Int} (hE : EndBy l ps E) (h : Hp) {t : Int} (ht : E ≤ t) : freeAt l ps h t = true := freeAt_of fun o ho => by
  have := hE o ho
  unfold clash
  have e1 : decide ((moved h t).bg < en l o) = false := decide_eq_false (by show ¬ t < en l o; omega)
  rw [e1, Bool.false_and, Bool.and_false]
theorem lf_spec {l : List Jb} {ps : List Hp} {E : Int} (hE : EndBy l ps E) (h : Hp) (h0 : 0 ≤ h.bg) (hE1 : E ≤ 100000) : h.bg ≤ lf l ps h ∧ (lf l ps h ≤ h.bg ∨ lf l ps h ≤ E) ∧ freeAt l ps h (lf l ps h) = true := by
  by_cases e : E ≤ h.bg
  · obtain ⟨g1, g2, g3⟩ := seek_le (freeAt l ps h) h.bg (free_late hE h e) far h.bg (Int.le_refl _) (by omega)
    exact ⟨g1, Or.inl g2, g3⟩
  · obtain ⟨g1, g2, g3⟩ := seek_le (freeAt l ps h) E (free_late hE h (Int.le_refl _)) far h.bg (by omega) (by unfold far; omega)
    exact ⟨g1, Or.inr g2, g3⟩
theorem pre_bg {n : Int} {l : List Jb} {ps : List Hp} {i : Int} (hv : JobV n (jAt l i)) (hE : EndBy l ps 100000) : ∀ k : Nat, 0 ≤ (pre l ps i k).bg ∧ (pre l ps i k).bg ≤ 100000 + 60 * k := by
  intro k
  induction k with
  | zero => have := hv.st0; have := hv.st1; show 0 ≤ (jAt l i).st ∧ (jAt l i).st ≤ 100000 + 60 * ((0 : Nat) : Int); omega
  | succ k ih =>
    obtain ⟨g1, g2, _⟩ := lf_spec hE (pre l ps i k) ih.1 (Int.le_refl _)
    have e : (pre l ps i (k + 1)).bg = lf l ps (pre l ps i k) + (jAt l (pre l ps i k).jb).sp := rfl
    rw [e, pre_jb]
    have := hv.sp0
    have := hv.sp1
    omega
theorem jobV_at {n : Int} {l : List Jb} (hv : JobsV n l) {k : Nat} (hk : k < l.length) : JobV n (jAt l k) := by
  rw [jAt_nat hk]; exact hv.all _ (List.getElem_mem hk)
end Go.Proofs.Ytiialbnfgichhaa
