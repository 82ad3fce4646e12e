/-
  Letters by weight: a stable insertion sort of 0, 1, .. is a list of ranks. Used by the claims on chapter 8.
-/
import Derived.Test.YtdphjnbelggcfaaBsfT
import Derived.Sort.LotA
namespace Go.Proofs.Ytdphjnbelggcfaa
open Go.Sort
set_option linter.unusedVariables false

theorem ins_inner {α : Type} [Inhabited α] (lt lt' : α → α → Bool) (Q : α → Prop) (n : Nat) : ∀ (j : Nat) (d : Array α), d.size = n → j < n → (∀ p, p < j → lt d[j]! d[p]! = lt' d[j]! d[p]!) → (∀ p, p ≤ j → Q d[p]!) →
    insInner lt 0 j d = insInner lt' 0 j d ∧ (insInner lt 0 j d).size = n ∧ (∀ p, p ≤ j → Q (insInner lt 0 j d)[p]!) ∧ (∀ q, j < q → (insInner lt 0 j d)[q]! = d[q]!)
  | 0, d, hs, hj, h, hQ => ⟨rfl, hs, fun p hp => hQ p hp, fun q hq => rfl⟩
  | j + 1, d, hs, hj, h, hQ => by
    have e := h j (Nat.lt_succ_self j)
    unfold insInner
    rw [← e]
    by_cases hc : (decide (j + 1 > 0) && lt d[j + 1]! d[j]!) = true
    · rw [if_pos hc, if_pos hc]
      have g := fun k => swp_get d (i := j + 1) (j := j) (by omega) (by omega) k
      have ih := ins_inner lt lt' Q n j (swp d (j + 1) j) (by rw [swp_size]; exact hs) (by omega)
        (fun p hp => by
          rw [swp_right _ _ _ (by omega), swp_other _ _ _ _ (by omega) (by omega)]
          exact h p (by omega))
        (fun p hp => by
          by_cases e1 : p = j
          · rw [e1, swp_right _ _ _ (by omega)]; exact hQ _ (Nat.le_refl _)
          · rw [swp_other _ _ _ _ (by omega) e1]; exact hQ p (by omega))
      refine ⟨ih.1, ih.2.1, fun p hp => ?_, fun q hq => ?_⟩
      · by_cases e1 : p = j + 1
        · rw [e1, ih.2.2.2 (j + 1) (by omega), swp_left _ _ _ (by omega) (by omega)]; exact hQ j (by omega)
        · exact ih.2.2.1 p (by omega)
      · rw [ih.2.2.2 q (by omega), swp_other _ _ _ _ (by omega) (by omega)]
    · rw [if_neg hc, if_neg hc]
      exact ⟨rfl, hs, fun p hp => hQ p hp, fun q hq => rfl⟩

/-- The stable order: two letters of different places are told apart. -/
theorem ins_outer {n : Nat} (lt lt' : Fin (n + 1) → Fin (n + 1) → Bool) (h : ∀ x y, y.val < x.val → lt x y = lt' x y) : ∀ (k i : Nat) (d : Array (Fin (n + 1))), n + 1 - i = k → d.size = n + 1 → (∀ q, q < n + 1 → i ≤ q → (d[q]!).val = q) → (∀ p, p < n + 1 → p < i → (d[p]!).val < i) →
    insOuter lt 0 (n + 1) i d = insOuter lt' 0 (n + 1) i d
  | 0, i, d, hk, hs, h1, h2 => by
    rw [insOuter, if_neg (by omega)]
    conv => rhs; rw [insOuter, if_neg (show ¬ i < n + 1 by omega)]
  | k + 1, i, d, hk, hs, h1, h2 => by
    rw [insOuter, if_pos (by omega)]
    conv => rhs; rw [insOuter, if_pos (show i < n + 1 by omega)]
    have hi := h1 i (by omega) (Nat.le_refl _)
    have g := ins_inner lt lt' (fun x => x.val < i + 1) (n + 1) i d hs (by omega)
      (fun p hp => h _ _ (by rw [hi]; exact h2 p (by omega) hp))
      (fun p hp => by
        by_cases e : p = i
        · rw [e, hi]; omega
        · have := h2 p (by omega) (by omega); omega)
    rw [← g.1]
    exact ins_outer lt lt' h k (i + 1) _ (by omega) g.2.1 (fun q hq hiq => by rw [g.2.2.2 q (by omega)]; exact h1 q hq (by omega)) (fun p hp hpi => g.2.2.1 p (by omega))

/-- The letters by weight. -/
def cfw (us : List Nat) {n : Nat} (x y : Fin (n + 1)) : Int := (uAt us y.val : Int) - (uAt us x.val : Int)
def ltw (us : List Nat) {n : Nat} (x y : Fin (n + 1)) : Bool := decide (cfw us x y < 0)
def aht (us : List Nat) {n : Nat} (x y : Fin (n + 1)) : Bool := ahd us x.val y.val
def idR (n : Nat) : Array (Fin (n + 1)) := (List.finRange (n + 1)).toArray
def lbw (us : List Nat) (n : Nat) : Array (Fin (n + 1)) := Sort.insertionSort (ltw us) (idR n) 0 (n + 1)
theorem idR_size (n : Nat) : (idR n).size = n + 1 := by simp [idR]
theorem idR_at (n q : Nat) (h : q < n + 1) : ((idR n)[q]!).val = q := by
  rw [getElem!_pos _ q (by rw [idR_size]; exact h)]
  simp [idR]
theorem ahd_iff (us : List Nat) (j i : Nat) : ahd us j i = true ↔ uAt us i < uAt us j ∨ (uAt us j = uAt us i ∧ j < i) := by simp [ahd]
theorem ahd_no (us : List Nat) (j i : Nat) : ahd us j i = false ↔ ¬ (uAt us i < uAt us j ∨ (uAt us j = uAt us i ∧ j < i)) := by rw [← ahd_iff]; simp
theorem aht_swo (us : List Nat) (n : Nat) : SWO (aht us (n := n)) := by
  refine ⟨fun x => ?_, fun x y z h1 h2 => ?_, fun x y z h1 h2 => ?_⟩
  · exact (ahd_no _ _ _).2 (by omega)
  · have a := (ahd_iff _ _ _).1 h1
    have b := (ahd_iff _ _ _).1 h2
    exact (ahd_iff _ _ _).2 (by omega)
  · have a := (ahd_no _ _ _).1 h1
    have b := (ahd_no _ _ _).1 h2
    exact (ahd_no _ _ _).2 (by omega)
theorem lbw_eq (us : List Nat) (n : Nat) : lbw us n = Sort.insertionSort (aht us) (idR n) 0 (n + 1) := by
  unfold lbw Sort.insertionSort
  refine ins_outer _ _ (fun x y hxy => ?_) (n + 1 - 1) 1 _ rfl (idR_size n) (fun q hq _ => idR_at n q hq) (fun p hp h1 => by rw [idR_at n p hp]; exact h1)
  unfold ltw aht cfw
  rw [Bool.eq_iff_iff, ahd_iff]
  simp only [decide_eq_true_eq]
  omega
theorem lbw_size (us : List Nat) (n : Nat) : (lbw us n).size = n + 1 := by
  rw [lbw_eq]
  have h := insertionSort_holds (lt := aht us) (aht_swo us n) (idR n) 0 (n + 1) (by omega) (by rw [idR_size]; exact Nat.le_refl _)
  exact h.1.1.trans (idR_size n)
/-- The letter at a place has this rank. -/
theorem lbw_rk (us : List Nat) (n : Nat) (hn : us.length = n + 1) (i : Nat) (hi : i < n + 1) : rk us ((lbw us n)[i]!).val = i := by
  have h := insertionSort_holds (lt := aht us) (aht_swo us n) (idR n) 0 (n + 1) (by omega) (by rw [idR_size]; exact Nat.le_refl _)
  rw [← lbw_eq] at h
  have hsz := lbw_size us n
  have hp : (lbw us n).toList.Perm (List.finRange (n + 1)) := by
    have h3 := h.1.2.2
    have e0 : ∀ {α : Type} (a : Array α) (m : Nat), a.size = m → a.extract 0 m = a := fun a m e => by subst e; exact Array.extract_size
    rw [e0 _ _ hsz, e0 _ _ (idR_size n)] at h3
    exact h3
  have hnd : (lbw us n).toList.Nodup := (hp.nodup_iff).2 (List.nodup_finRange _)
  generalize hg : lbw us n = P at *
  have hL : P.toList.length = n + 1 := by rw [Array.length_toList]; exact hsz
  have hgt : ∀ k (hk : k < n + 1), P[k]! = P.toList[k]'(by omega) := fun k hk => by
    rw [getElem!_pos _ k (by omega)]; simp
  unfold rk
  have e1 : (List.range us.length).countP (fun j => ahd us j (P[i]!).val) = (List.finRange (n + 1)).countP (fun x => ahd us x.val (P[i]!).val) := by
    rw [hn]
    have : List.range (n + 1) = (List.finRange (n + 1)).map Fin.val := by
      refine List.ext_getElem (by simp) fun k h1 h2 => ?_
      simp
    rw [this, List.countP_map]; rfl
  rw [e1, ← hp.countP_eq]
  have e2 : P.toList.countP (fun x => ahd us x.val (P[i]!).val) = (List.range (n + 1)).countP (fun k => decide (k < i)) := by
    have : P.toList = (List.range (n + 1)).map (fun k => P[k]!) := by
      refine List.ext_getElem (by simp [hsz]) fun k h1 h2 => ?_
      simp only [List.getElem_map, List.getElem_range]
      rw [hgt k (by omega)]
    conv => lhs; rw [this]
    rw [List.countP_map]
    refine List.countP_congr fun k hk => ?_
    have hk' : k < n + 1 := by simpa using hk
    show aht us P[k]! P[i]! = true ↔ decide (k < i) = true
    rw [decide_eq_true_eq]
    constructor
    · intro ha
      rcases Nat.lt_trichotomy k i with h1 | h1 | h1
      · exact h1
      · rw [h1, (aht_swo us n).irrefl] at ha; cases ha
      · have := h.2 i k (by omega) h1 hk'
        rw [this] at ha; cases ha
    · intro hki
      have hno := h.2 k i (by omega) hki hi
      have hne : (P[k]!).val ≠ (P[i]!).val := fun e => by
        have e := Fin.ext e
        rw [hgt k hk', hgt i hi] at e
        exact (List.pairwise_iff_getElem.1 hnd) k i (by omega) (by omega) hki e
      have a := (ahd_no _ _ _).1 hno
      exact (ahd_iff _ _ _).2 (by omega)
  rw [e2]
  have : ∀ m i, i ≤ m → (List.range m).countP (fun k => decide (k < i)) = i := fun m => by
    induction m with
    | zero => intro i hi; simp; omega
    | succ m ih =>
      intro i hi
      rw [List.range_succ, List.countP_append]
      by_cases hm : i ≤ m
      · rw [ih i hm]; simp; omega
      · have : i = m + 1 := by omega
        subst this
        rw [List.countP_congr (q := fun k => decide (k < m)) (fun k hk => by have : k < m := by simpa using hk
                                                                             simp; omega), ih m (Nat.le_refl _)]
        simp
  exact this _ _ (by omega)
end Go.Proofs.Ytdphjnbelggcfaa
