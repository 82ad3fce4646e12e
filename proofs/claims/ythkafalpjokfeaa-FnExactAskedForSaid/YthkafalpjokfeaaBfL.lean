/-
  Plain: the order of times of marks. Used by the claims on chapter 8.
-/
import Derived.Test.YthkafalpjokfeaaTabT
import Derived.WalkLawsBesides
namespace Go.Proofs.Ythkafalpjokfeaa
open Go.RowKit
set_option linter.unusedVariables false

/-- One text comes behind another one by its bytes. -/
def gtL (a b : Bs) : Bool := !(Op.bytesLess a b || a == b)
theorem less_self : ∀ a : Bs, Op.bytesLess a a = false
  | [] => rfl
  | c :: a => by
    have := less_self a
    simp [Op.bytesLess, this]
theorem gt_self (a : Bs) : gtL a a = false := by simp [gtL]
theorem gt_cons (c : UInt8) (a b : Bs) : gtL (c :: a) (c :: b) = gtL a b := by
  have h : ¬ c < c := UInt8.lt_irrefl c
  simp [gtL, Op.bytesLess, h]
theorem gt_diff {x y : UInt8} (h : x ≠ y) (a b : Bs) : gtL (x :: a) (y :: b) = decide (y < x) := by
  have e : (x == y) = false := beq_false_of_ne h
  have e2 : (x :: a == y :: b) = false := beq_false_of_ne (fun e => h (List.cons.inj e).1)
  simp only [gtL, Op.bytesLess, e, e2, Bool.false_and, Bool.or_false]
  by_cases hl : x < y
  · have : ¬ y < x := fun h2 => absurd (UInt8.lt_trans hl h2) (UInt8.lt_irrefl _)
    simp [hl, this]
  · have h1 : y < x := by
      rcases Nat.lt_trichotomy x.toNat y.toNat with h3 | h3 | h3
      · exact absurd (UInt8.lt_iff_toNat_lt.2 h3) hl
      · exact absurd (UInt8.toNat_inj.1 h3) h
      · exact UInt8.lt_iff_toNat_lt.2 h3
    simp [hl, h1]
theorem gt_app (p a b : Bs) : gtL (p ++ a) (p ++ b) = gtL a b := by
  induction p with
  | nil => rfl
  | cons c p ih => rw [List.cons_append, List.cons_append, gt_cons, ih]
/-- Marks that differ first at a place: the one with the dot there comes behind. -/
theorem gt_at {a b : Bs} {k : Nat} {x y : UInt8} (ha : a.all isMk = true) (hb : b.all isMk = true) (ht : a.take k = b.take k) (hx : a[k]? = some x) (hy : b[k]? = some y) (h : x ≠ y) : gtL a b = decide (x.toNat = 46) := by
  obtain ⟨h1, rfl⟩ := List.getElem?_eq_some_iff.1 hx
  obtain ⟨h2, rfl⟩ := List.getElem?_eq_some_iff.1 hy
  have ea : a = a.take k ++ a[k] :: a.drop (k + 1) := by rw [← List.drop_eq_getElem_cons h1, List.take_append_drop]
  have eb : b = a.take k ++ b[k] :: b.drop (k + 1) := by rw [ht, ← List.drop_eq_getElem_cons h2, List.take_append_drop]
  have m1 := List.all_eq_true.1 ha _ (List.getElem_mem h1)
  have m2 := List.all_eq_true.1 hb _ (List.getElem_mem h2)
  have e0 : gtL a b = gtL (a.take k ++ a[k] :: a.drop (k + 1)) (a.take k ++ b[k] :: b.drop (k + 1)) := by rw [← ea, ← eb]
  rw [e0, gt_app, gt_diff h]
  generalize a[k] = u at m1 h
  generalize b[k] = v at m2 h
  simp only [isMk, Bool.or_eq_true, beq_iff_eq] at m1 m2
  rcases m1 with rfl | rfl <;> rcases m2 with rfl | rfl
  · exact absurd rfl h
  · decide
  · decide
  · exact absurd rfl h

/-- The order of bare texts, and the order of times. -/
def firstL (a b : Bs) : Bool := if a.length = b.length then gtL a b else decide (a.length < b.length)
def befL (a b : Bs) : Bool := if tml a = tml b then firstL a b else decide (tml a < tml b)

theorem tml_le5 {x : Bs} (h : x.length ≤ 5) : tml x ≤ 19 := by
  have h3 : ∀ l : Bs, (l.map sgm).sum ≤ 3 * l.length := fun l => by
    induction l with
    | nil => simp
    | cons c l ih =>
      have : sgm c ≤ 3 := by unfold sgm; split <;> omega
      simp only [List.map_cons, List.sum_cons, List.length_cons] at ih ⊢
      omega
  have := h3 x
  unfold tml
  omega
theorem tml_pos {x : Bs} (h : 1 ≤ x.length) : 1 ≤ tml x := by
  cases x with
  | nil => simp at h
  | cons c l =>
    have : 1 ≤ sgm c := by unfold sgm; split <;> omega
    unfold tml
    simp only [List.map_cons, List.sum_cons]
    omega

/-! ### The order of times is one -/
theorem gt_irrefl (a : Bs) : gtL a a = false := gt_self a
theorem gt_total {a b : Bs} (h : a ≠ b) : gtL a b = true ∨ gtL b a = true := by
  induction a generalizing b with
  | nil =>
    cases b with
    | nil => exact absurd rfl h
    | cons y b => right; simp [gtL, Op.bytesLess]
  | cons x a ih =>
    cases b with
    | nil => left; simp [gtL, Op.bytesLess]
    | cons y b =>
      by_cases e : x = y
      · subst e
        rw [gt_cons, gt_cons]
        exact ih (fun e => h (by rw [e]))
      · rw [gt_diff e, gt_diff (Ne.symm e)]
        rcases Nat.lt_trichotomy x.toNat y.toNat with h3 | h3 | h3
        · right; simpa using UInt8.lt_iff_toNat_lt.2 h3
        · exact absurd (UInt8.toNat_inj.1 h3) e
        · left; simpa using UInt8.lt_iff_toNat_lt.2 h3
theorem gt_trans {a b c : Bs} (h1 : gtL a b = true) (h2 : gtL b c = true) : gtL a c = true := by
  induction a generalizing b c with
  | nil =>
    cases b with
    | nil => rw [gt_self] at h1; cases h1
    | cons y b => simp [gtL, Op.bytesLess] at h1
  | cons x a ih =>
    cases b with
    | nil =>
      cases c with
      | nil => rw [gt_self] at h2; cases h2
      | cons z c => simp [gtL, Op.bytesLess] at h2
    | cons y b =>
      cases c with
      | nil => simp [gtL, Op.bytesLess]
      | cons z c =>
        by_cases e1 : x = y
        · subst e1
          rw [gt_cons] at h1
          by_cases e2 : x = z
          · subst e2
            rw [gt_cons] at h2 ⊢
            exact ih h1 h2
          · rw [gt_diff e2] at h2 ⊢; exact h2
        · rw [gt_diff e1] at h1
          have l1 := UInt8.lt_iff_toNat_lt.1 (of_decide_eq_true h1)
          by_cases e2 : y = z
          · subst e2; rw [gt_diff e1]; exact h1
          · rw [gt_diff e2] at h2
            have l2 := UInt8.lt_iff_toNat_lt.1 (of_decide_eq_true h2)
            rw [gt_diff (fun e => by rw [e] at l1; omega)]
            exact decide_eq_true (UInt8.lt_iff_toNat_lt.2 (by omega))
theorem bef_irrefl (a : Bs) : befL a a = false := by simp [befL, firstL, gt_self]
theorem bef_total {a b : Bs} (h : a ≠ b) : befL a b = true ∨ befL b a = true := by
  unfold befL firstL
  by_cases e : tml a = tml b
  · rw [if_pos e, if_pos e.symm]
    by_cases e2 : a.length = b.length
    · rw [if_pos e2, if_pos e2.symm]; exact gt_total h
    · rw [if_neg e2, if_neg (Ne.symm e2)]; simp only [decide_eq_true_eq]; omega
  · rw [if_neg e, if_neg (Ne.symm e)]; simp only [decide_eq_true_eq]; omega
theorem bef_trans {a b c : Bs} (h1 : befL a b = true) (h2 : befL b c = true) : befL a c = true := by
  unfold befL firstL at *
  by_cases e1 : tml a = tml b
  · rw [if_pos e1] at h1
    by_cases e2 : tml b = tml c
    · rw [if_pos e2] at h2
      rw [if_pos (e1.trans e2)]
      by_cases l1 : a.length = b.length
      · rw [if_pos l1] at h1
        by_cases l2 : b.length = c.length
        · rw [if_pos l2] at h2
          rw [if_pos (l1.trans l2)]
          exact gt_trans h1 h2
        · rw [if_neg l2] at h2
          rw [if_neg (by omega)]
          simp only [decide_eq_true_eq] at h2 ⊢; omega
      · rw [if_neg l1] at h1
        simp only [decide_eq_true_eq] at h1
        by_cases l2 : b.length = c.length
        · rw [if_neg (by omega)]
          simp only [decide_eq_true_eq]; omega
        · rw [if_neg l2] at h2
          simp only [decide_eq_true_eq] at h2
          rw [if_neg (by omega)]
          simp only [decide_eq_true_eq]; omega
    · rw [if_neg e2] at h2
      rw [if_neg (by omega)]
      simp only [decide_eq_true_eq] at h2 ⊢; omega
  · rw [if_neg e1] at h1
    simp only [decide_eq_true_eq] at h1
    by_cases e2 : tml b = tml c
    · rw [if_neg (by omega)]
      simp only [decide_eq_true_eq]; omega
    · rw [if_neg e2] at h2
      simp only [decide_eq_true_eq] at h2
      rw [if_neg (by omega)]
      simp only [decide_eq_true_eq]; omega
theorem bef_le {a b : Bs} (h : befL a b = true) : tml a ≤ tml b := by
  unfold befL at h
  by_cases e : tml a = tml b
  · omega
  · rw [if_neg e] at h
    simp only [decide_eq_true_eq] at h
    omega
theorem bef_asymm {a b : Bs} (h : befL a b = true) : befL b a = false := by
  rw [Bool.eq_false_iff]
  intro h2
  have := bef_trans h h2
  rw [bef_irrefl] at this
  cases this
end Go.Proofs.Ythkafalpjokfeaa
