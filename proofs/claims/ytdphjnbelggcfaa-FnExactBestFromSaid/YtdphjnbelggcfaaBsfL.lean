/-
  Plain: the first best marks for weights, out of marks in the order of times: letter by letter, the first text with the time that the letter has in a best order. Used by the claims on chapter 8.
-/
import Derived.Test.YtdphjnbelggcfaaSwtL
namespace Go.Proofs.Ytdphjnbelggcfaa
open Go.RowKit
set_option linter.unusedVariables false

/-- So many letters behind have a greater weight. -/
def cAb (x : Nat) (us : List Nat) : Nat := us.countP fun y => decide (x < y)
theorem cAb_le (x : Nat) (us : List Nat) : cAb x us ≤ us.length := List.countP_le_length
/-- Weights in descending order. -/
def dsc : List Nat → List Nat
  | [] => []
  | x :: us => (dsc us).insertIdx (cAb x us) x
theorem dsc_len : ∀ us, (dsc us).length = us.length
  | [] => rfl
  | x :: us => by rw [dsc, List.length_insertIdx, dsc_len us, if_pos (cAb_le x us)]; rfl
/-- Of the weights in descending order, those in front are greater ones, those behind are not. -/
theorem dsc_perm : ∀ us, (dsc us).Perm us
  | [] => List.Perm.nil
  | x :: us => by
    have h := List.perm_insertIdx x (dsc us) (i := cAb x us) (by rw [dsc_len]; exact cAb_le x us)
    exact h.trans ((dsc_perm us).cons x)
theorem cAb_dsc (x : Nat) (us : List Nat) : cAb x us = cAb x (dsc us) := ((dsc_perm us).countP_eq _).symm
theorem sorted_cut {l : List Nat} (h : l.Pairwise (fun a b => b ≤ a)) (x : Nat) : ∀ k (hk : k < l.length), (k < cAb x l ↔ x < l[k]) := by
  induction l with
  | nil => intro k hk; simp at hk
  | cons y l ih =>
    intro k hk
    rw [List.pairwise_cons] at h
    have e : cAb x (y :: l) = cAb x l + if x < y then 1 else 0 := by simp [cAb, List.countP_cons]
    rw [e]
    by_cases hy : x < y
    · rw [if_pos hy]
      cases k with
      | zero => simp [hy]
      | succ k =>
        have := ih h.2 k (by simpa using hk)
        simp only [List.getElem_cons_succ]
        rw [← this]; omega
    · rw [if_neg hy]
      have hz : cAb x l = 0 := by
        unfold cAb
        rw [List.countP_eq_zero]
        intro z hz
        have := h.1 z hz
        simp only [decide_eq_true_eq]; omega
      rw [hz]
      cases k with
      | zero => simp [hy]
      | succ k =>
        have hk2 : k < l.length := by simpa using hk
        have := h.1 (l[k]'hk2) (List.getElem_mem hk2)
        simp only [List.getElem_cons_succ]
        omega
theorem dsc_sorted : ∀ us, (dsc us).Pairwise (fun a b => b ≤ a)
  | [] => List.Pairwise.nil
  | x :: us => by
    have ih := dsc_sorted us
    have hc : cAb x us ≤ (dsc us).length := by rw [dsc_len]; exact cAb_le x us
    have hcut := sorted_cut ih x
    rw [dsc, List.pairwise_iff_getElem]
    intro i j hi hj hij
    rw [List.length_insertIdx, if_pos hc] at hi hj
    have hcd := cAb_dsc x us
    rw [← hcd] at hcut
    rw [List.getElem_insertIdx, List.getElem_insertIdx]
    rw [List.pairwise_iff_getElem] at ih
    by_cases h1 : i < cAb x us
    · rw [dif_pos h1]
      by_cases h2 : j < cAb x us
      · rw [dif_pos h2]; exact ih i j (by omega) (by omega) hij
      · rw [dif_neg h2]
        by_cases h3 : j = cAb x us
        · rw [dif_pos h3]; have := (hcut i (by omega)).1 h1; omega
        · rw [dif_neg h3]; exact ih i (j - 1) (by omega) (by omega) (by omega)
    · rw [dif_neg h1]
      have h2 : ¬ j < cAb x us := by omega
      have h3 : ¬ j = cAb x us := by omega
      rw [dif_neg h2, dif_neg h3]
      by_cases h4 : i = cAb x us
      · rw [dif_pos h4]
        have := mt (hcut (j - 1) (by omega)).2 (by omega)
        omega
      · rw [dif_neg h4]; exact ih (i - 1) (j - 1) (by omega) (by omega) (by omega)

/-- The cost of a best order: the greatest weights have the least times. -/
def bc (T us : List Nat) : Nat := ((dsc us).zipWith (· * ·) T).sum
/-- The times of the letters in a best order. -/
def bts : List Nat → List Nat → List Nat
  | _, [] => []
  | T, x :: us => T.getD (cAb x us) 0 :: bts (T.eraseIdx (cAb x us)) us
theorem bts_len : ∀ T us, (bts T us).length = us.length
  | _, [] => rfl
  | T, x :: us => by rw [bts, List.length_cons, bts_len, List.length_cons]
theorem zip_insert : ∀ (l T : List Nat) (c x : Nat), c ≤ l.length → l.length < T.length → ((l.insertIdx c x).zipWith (· * ·) T).sum = x * T.getD c 0 + (l.zipWith (· * ·) (T.eraseIdx c)).sum
  | l, [], c, x, h1, h2 => by simp at h2
  | l, t :: T, 0, x, h1, h2 => by simp [List.insertIdx]
  | [], t :: T, c + 1, x, h1, h2 => by simp at h1
  | y :: l, t :: T, c + 1, x, h1, h2 => by
    have := zip_insert l T c x (by simpa using h1) (by simpa using h2)
    simp only [List.insertIdx_succ_cons, List.zipWith_cons_cons, List.sum_cons, List.getD_cons_succ, List.eraseIdx_cons_succ]
    rw [this]; omega
theorem bc_cons {T us : List Nat} {x : Nat} (h : us.length < T.length) : bc T (x :: us) = x * T.getD (cAb x us) 0 + bc (T.eraseIdx (cAb x us)) us := by
  unfold bc
  rw [dsc]
  exact zip_insert _ _ _ _ (by rw [dsc_len]; exact cAb_le x us) (by rw [dsc_len]; exact h)

/-- A sorted list without an element: later ones come before. -/
theorem erase_same : ∀ {T : List Nat}, T.Pairwise (· ≤ ·) → ∀ {k c : Nat}, k ≤ c → c < T.length → T.getD k 0 = T.getD c 0 → T.eraseIdx k = T.eraseIdx c
  | [], _, k, c, _, h, _ => by simp at h
  | t :: T, hs, 0, 0, _, _, _ => rfl
  | t :: T, hs, 0, c + 1, _, h, e => by
    rw [List.pairwise_cons] at hs
    simp only [List.getD_cons_zero, List.getD_cons_succ] at e
    have hc : c < T.length := by simpa using h
    simp only [List.eraseIdx_cons_zero, List.eraseIdx_cons_succ]
    cases T with
    | nil => simp at hc
    | cons t2 T =>
      have e2 : t = t2 := by
        have h1 := hs.1 t2 (by simp)
        have h2 : t2 ≤ (t2 :: T).getD c 0 := by
          cases c with
          | zero => simp
          | succ c =>
            rw [List.pairwise_cons] at hs
            rw [List.getD_cons_succ, List.getD_eq_getElem?_getD, List.getElem?_eq_getElem (by simpa using hc)]
            exact hs.2.1 _ (List.getElem_mem _)
        omega
      subst e2
      have := erase_same hs.2 (k := 0) (c := c) (Nat.zero_le _) hc (by simpa using e)
      rw [← this]; rfl
  | t :: T, hs, k + 1, 0, hk, _, _ => by omega
  | t :: T, hs, k + 1, c + 1, hk, h, e => by
    rw [List.pairwise_cons] at hs
    simp only [List.eraseIdx_cons_succ]
    rw [erase_same hs.2 (k := k) (c := c) (by omega) (by simpa using h) (by simpa using e)]
/-- What it costs more to take an earlier text than the best one. -/
theorem zip_gap : ∀ (T v : List Nat) (k c x : Nat), T.Pairwise (· ≤ ·) → k ≤ c → c < T.length → c ≤ v.length → (∀ j (hj : j < v.length), j < c → x < v[j]) →
    x * T.getD c 0 + (v.zipWith (· * ·) (T.eraseIdx c)).sum + (T.getD c 0 - T.getD k 0) ≤ x * T.getD k 0 + (v.zipWith (· * ·) (T.eraseIdx k)).sum
  | [], v, k, c, x, hs, hkc, hc, hv, hx => by simp at hc
  | t :: T, v, k + 1, 0, x, hs, hkc, hc, hv, hx => by omega
  | t :: T, v, 0, 0, x, hs, hkc, hc, hv, hx => by simp
  | t :: T, [], k, c + 1, x, hs, hkc, hc, hv, hx => by simp at hv
  | t :: T, y :: v, k + 1, c + 1, x, hs, hkc, hc, hv, hx => by
    rw [List.pairwise_cons] at hs
    have := zip_gap T v k c x hs.2 (by omega) (by simpa using hc) (by simpa using hv) (fun j hj hjc => hx (j + 1) (by simpa using hj) (by omega))
    simp only [List.getD_cons_succ, List.eraseIdx_cons_succ, List.zipWith_cons_cons, List.sum_cons]
    omega
  | t :: T, y :: v, 0, c + 1, x, hs, hkc, hc, hv, hx => by
    rw [List.pairwise_cons] at hs
    have hxy := hx 0 (by simp) (by omega)
    simp only [List.getElem_cons_zero] at hxy
    cases T with
    | nil => simp at hc
    | cons t2 T =>
      have ht := hs.1 t2 (by simp)
      have ih := zip_gap (t2 :: T) v 0 c x hs.2 (Nat.zero_le _) (by simpa using hc) (by simpa using hv) (fun j hj hjc => hx (j + 1) (by simpa using hj) (by omega))
      simp only [List.getD_cons_zero, List.getD_cons_succ, List.eraseIdx_cons_zero, List.eraseIdx_cons_succ, List.zipWith_cons_cons, List.sum_cons] at ih ⊢
      have m1 : y * t2 = y * t + y * (t2 - t) := by rw [← Nat.mul_add]; congr 1; omega
      have m2 : x * t2 = x * t + x * (t2 - t) := by rw [← Nat.mul_add]; congr 1; omega
      have m3 : x * (t2 - t) + (t2 - t) ≤ y * (t2 - t) := by
        have : (x + 1) * (t2 - t) ≤ y * (t2 - t) := Nat.mul_le_mul_right _ hxy
        rw [Nat.add_mul, Nat.one_mul] at this
        exact this
      omega
end Go.Proofs.Ytdphjnbelggcfaa
