/-
  Plain: the first best marks, as texts; ranks of letters by their weights. Used by the claims on chapter 8.
-/
import Derived.Test.YtdphjnbelggcfaaBsfL
namespace Go.Proofs.Ytdphjnbelggcfaa
open Go.RowKit
set_option linter.unusedVariables false

def tL (L : List ByteArray) : List Nat := L.map fun x => tml (bl x)
theorem tL_len (L : List ByteArray) : (tL L).length = L.length := List.length_map ..
theorem tL_getD (L : List ByteArray) (k : Nat) (h : k < L.length) : (tL L).getD k 0 = tAt L k := by
  rw [tAt_eq h, List.getD_eq_getElem?_getD, List.getElem?_eq_getElem (by rw [tL_len]; exact h)]
  simp [tL]
theorem tL_erase : ∀ (L : List ByteArray) (k : Nat), tL (L.eraseIdx k) = (tL L).eraseIdx k
  | [], k => by simp [tL]
  | x :: L, 0 => rfl
  | x :: L, k + 1 => by
    have := tL_erase L k
    simp only [tL, List.eraseIdx_cons_succ, List.map_cons] at this ⊢
    rw [this]

/-- The place of the first text of a time. -/
def fP : List ByteArray → Nat → Nat
  | [], _ => 0
  | x :: L, t => if tml (bl x) = t then 0 else fP L t + 1
theorem fP_at : ∀ {L : List ByteArray} {t c : Nat}, c < L.length → tAt L c = t → fP L t ≤ c ∧ tAt L (fP L t) = t ∧ ∀ k, k < fP L t → tAt L k ≠ t
  | [], t, c, h, e => by simp at h
  | x :: L, t, c, h, e => by
    unfold fP
    by_cases hx : tml (bl x) = t
    · rw [if_pos hx]
      exact ⟨Nat.zero_le _, hx, fun k hk => by omega⟩
    · rw [if_neg hx]
      cases c with
      | zero => exact absurd e hx
      | succ c =>
        obtain ⟨h1, h2, h3⟩ := fP_at (L := L) (t := t) (c := c) (by simpa using h) e
        refine ⟨by omega, h2, fun k hk => ?_⟩
        cases k with
        | zero => exact hx
        | succ k => exact h3 k (by omega)
/-- The first best marks. -/
def fstL : List ByteArray → List Nat → List ByteArray
  | _, [] => []
  | L, x :: us => L.getD (fP L (tAt L (cAb x us))) ⟨#[]⟩ :: fstL (L.eraseIdx (fP L (tAt L (cAb x us)))) us
theorem fstL_len : ∀ L us, (fstL L us).length = us.length
  | _, [] => rfl
  | L, x :: us => by rw [fstL, List.length_cons, fstL_len, List.length_cons]
theorem erase_len {α : Type} (L : List α) (k : Nat) (h : k < L.length) : (L.eraseIdx k).length = L.length - 1 := by rw [List.length_eraseIdx, if_pos h]
/-- Times without the first text of a time are those without a later one. -/
theorem tL_first {L : List ByteArray} (hs : (tL L).Pairwise (· ≤ ·)) {c : Nat} (h : c < L.length) : tL (L.eraseIdx (fP L (tAt L c))) = (tL L).eraseIdx c := by
  obtain ⟨h1, h2, _⟩ := fP_at (L := L) h rfl
  rw [tL_erase]
  exact erase_same hs h1 (by rw [tL_len]; exact h) (by rw [tL_getD _ _ (by omega), tL_getD _ _ h]; exact h2)
theorem sorted_erase {T : List Nat} (h : T.Pairwise (· ≤ ·)) (k : Nat) : (T.eraseIdx k).Pairwise (· ≤ ·) := h.sublist (List.eraseIdx_sublist _ _)
/-- Their times are those of a best order. -/
theorem tL_fst : ∀ (L : List ByteArray) (us : List Nat), (tL L).Pairwise (· ≤ ·) → us.length ≤ L.length → tL (fstL L us) = bts (tL L) us
  | _, [], _, _ => rfl
  | L, x :: us, hs, hl => by
    have hc : cAb x us < L.length := by have := cAb_le x us; simp only [List.length_cons] at hl; omega
    obtain ⟨h1, h2, _⟩ := fP_at (L := L) hc rfl
    have he := tL_first hs hc
    have ih := tL_fst (L.eraseIdx (fP L (tAt L (cAb x us)))) us (by rw [tL_erase]; exact sorted_erase hs _) (by rw [erase_len _ _ (by omega)]; simp only [List.length_cons] at hl; omega)
    rw [he] at ih
    rw [fstL, bts, tL_getD _ _ hc, ← ih]
    show tAt L (fP L (tAt L (cAb x us))) :: _ = _
    rw [h2]
    rfl
/-- Costs, the other way round. -/
def cz (us T : List Nat) : Nat := (us.zipWith (· * ·) T).sum
theorem cst_shift (u t : Nat → Nat) : ∀ n, cst u t (n + 1) = u 0 * t 0 + cst (fun k => u (k + 1)) (fun k => t (k + 1)) n
  | 0 => by simp [cst]
  | n + 1 => by
    rw [cst, cst_shift u t n, cst]; omega
theorem cst_cz : ∀ (us : List Nat) (L : List ByteArray), us.length ≤ L.length → cst (uAt us) (tAt L) us.length = cz us (tL L)
  | [], L, _ => rfl
  | x :: us, [], h => by simp at h
  | x :: us, y :: L, h => by
    rw [List.length_cons, cst_shift]
    have e := cst_cz us L (by simpa using h)
    show x * tml (bl y) + cst (uAt us) (tAt L) us.length = _
    rw [e]
    simp [cz, tL]
theorem cz_bts : ∀ (T us : List Nat), us.length ≤ T.length → cz us (bts T us) = bc T us
  | T, [], _ => by simp [cz, bts, bc, dsc]
  | T, x :: us, h => by
    have hc : cAb x us < T.length := by have := cAb_le x us; simp only [List.length_cons] at h; omega
    rw [bc_cons (by simp only [List.length_cons] at h; omega), ← cz_bts (T.eraseIdx (cAb x us)) us (by rw [erase_len _ _ hc]; simp only [List.length_cons] at h; omega)]
    simp [cz, bts]
theorem cost_fst {L : List ByteArray} {us : List Nat} (hs : (tL L).Pairwise (· ≤ ·)) (hl : us.length ≤ L.length) : cst (uAt us) (tAt (fstL L us)) us.length = bc (tL L) us := by
  rw [cst_cz _ _ (by rw [fstL_len]; exact Nat.le_refl _), tL_fst L us hs hl, cz_bts _ _ (by rw [tL_len]; exact hl)]

/-! ### Ranks -/
/-- One letter is ahead of another one: it has a greater weight, or the same one and comes first. -/
def ahd (us : List Nat) (j i : Nat) : Bool := decide (uAt us i < uAt us j) || (decide (uAt us j = uAt us i) && decide (j < i))
def rk (us : List Nat) (i : Nat) : Nat := (List.range us.length).countP fun j => ahd us j i
theorem rk_zero (x : Nat) (us : List Nat) : rk (x :: us) 0 = cAb x us := by
  unfold rk
  rw [List.length_cons, List.range_succ_eq_map, List.countP_cons, List.countP_map]
  have e : ahd (x :: us) 0 0 = false := by simp [ahd]
  rw [e]
  have e2 : ∀ us : List Nat, (List.range us.length).countP ((fun j => ahd (x :: us) j 0) ∘ Nat.succ) = cAb x us := fun us => by
    unfold cAb
    conv => rhs; rw [show us = (List.range us.length).map (uAt us) from by
      refine List.ext_getElem (by simp) fun k h1 h2 => ?_
      simp [uAt_eq h1]]
    rw [List.countP_map]
    refine List.countP_congr fun j _ => ?_
    show ahd (x :: us) (j + 1) 0 = true ↔ decide (x < uAt us j) = true
    have e1 : uAt (x :: us) (j + 1) = uAt us j := rfl
    have e3 : uAt (x :: us) 0 = x := rfl
    simp [ahd, e1, e3]
  rw [e2]; simp
theorem rk_succ (x : Nat) (us : List Nat) (i : Nat) : rk (x :: us) (i + 1) = rk us i + if uAt us i ≤ x then 1 else 0 := by
  unfold rk
  rw [List.length_cons, List.range_succ_eq_map, List.countP_cons, List.countP_map]
  congr 1
  · refine List.countP_congr fun j _ => ?_
    show ahd (x :: us) (j + 1) (i + 1) = true ↔ ahd us j i = true
    have e1 : uAt (x :: us) (i + 1) = uAt us i := rfl
    have e2 : uAt (x :: us) (j + 1) = uAt us j := rfl
    simp [ahd, e1, e2]
  · have e1 : uAt (x :: us) (i + 1) = uAt us i := rfl
    have e2 : uAt (x :: us) 0 = x := rfl
    have : (ahd (x :: us) 0 (i + 1) = true) ↔ uAt us i ≤ x := by
      simp [ahd, e1, e2]; omega
    by_cases h : uAt us i ≤ x
    · rw [if_pos h, if_pos (this.2 h)]
    · rw [if_neg h, if_neg (fun e => h (this.1 e))]
theorem rk_cut {x : Nat} {us : List Nat} {i : Nat} (hi : i < us.length) : rk us i < cAb x us ↔ x < uAt us i := by
  have ec : cAb x us = (List.range us.length).countP (fun j => decide (x < uAt us j)) := by
    unfold cAb
    conv => lhs; rw [show us = (List.range us.length).map (uAt us) from by
      refine List.ext_getElem (by simp) fun k h1 h2 => ?_
      simp [uAt_eq h1]]
    rw [List.countP_map]; rfl
  rw [ec]
  unfold rk
  constructor
  · intro h
    refine Nat.lt_of_not_le fun hx => ?_
    have : (List.range us.length).countP (fun j => decide (x < uAt us j)) ≤ (List.range us.length).countP (fun j => ahd us j i) := by
      refine List.countP_mono_left fun j _ hj => ?_
      simp only [decide_eq_true_eq] at hj
      simp [ahd]; omega
    omega
  · intro h
    have hm : i ∈ List.range us.length := List.mem_range.2 hi
    have key : ∀ l : List Nat, i ∈ l → l.countP (fun j => ahd us j i) < l.countP (fun j => decide (x < uAt us j)) := fun l => by
      induction l with
      | nil => intro h; simp at h
      | cons j l ih =>
        intro hj
        rw [List.countP_cons, List.countP_cons]
        have hle : l.countP (fun j => ahd us j i) ≤ l.countP (fun j => decide (x < uAt us j)) := List.countP_mono_left fun j _ hj => by
          simp only [ahd, Bool.or_eq_true, Bool.and_eq_true, decide_eq_true_eq] at hj ⊢
          omega
        by_cases e : j = i
        · subst e
          have e1 : ahd us j j = false := by simp [ahd]
          rw [e1, if_pos (decide_eq_true h)]
          simp only [Bool.false_eq_true, if_false]
          omega
        · have := ih (by rcases List.mem_cons.1 hj with h2 | h2; exact absurd h2.symm e; exact h2)
          have h1 : (if ahd us j i = true then 1 else 0) ≤ if decide (x < uAt us j) = true then 1 else 0 := by
            by_cases h3 : ahd us j i = true
            · have h4 : decide (x < uAt us j) = true := by
                simp only [ahd, Bool.or_eq_true, Bool.and_eq_true, decide_eq_true_eq] at h3 ⊢
                omega
              rw [if_pos h3, if_pos h4]; exact Nat.le_refl _
            · rw [if_neg h3]; exact Nat.zero_le _
          omega
    exact key _ hm
/-- The best marks of the letters, by their ranks. -/
def bstL : List ByteArray → List Nat → List ByteArray
  | _, [] => []
  | L, x :: us => L.getD (cAb x us) ⟨#[]⟩ :: bstL (L.eraseIdx (cAb x us)) us
theorem bstL_len : ∀ L us, (bstL L us).length = us.length
  | _, [] => rfl
  | L, x :: us => by rw [bstL, List.length_cons, bstL_len, List.length_cons]
theorem getD_erase {α : Type} (d : α) : ∀ (L : List α) (c k : Nat), (L.eraseIdx c).getD k d = if k < c then L.getD k d else L.getD (k + 1) d
  | [], c, k => by simp
  | x :: L, 0, k => by simp
  | x :: L, c + 1, 0 => by simp
  | x :: L, c + 1, k + 1 => by
    have := getD_erase d L c k
    simp only [List.eraseIdx_cons_succ, List.getD_cons_succ, this]
    by_cases h : k < c
    · rw [if_pos h, if_pos (by omega)]
    · rw [if_neg h, if_neg (by omega)]
theorem bstL_rk : ∀ (L : List ByteArray) (us : List Nat) (i : Nat), i < us.length → (bstL L us).getD i ⟨#[]⟩ = L.getD (rk us i) ⟨#[]⟩
  | L, [], i, h => by simp at h
  | L, x :: us, 0, h => by rw [rk_zero]; rfl
  | L, x :: us, i + 1, h => by
    have hi : i < us.length := by simpa using h
    rw [bstL, List.getD_cons_succ, bstL_rk _ us i hi, getD_erase, rk_succ]
    by_cases hx : uAt us i ≤ x
    · rw [if_pos hx, if_neg (fun e => by have := (rk_cut hi).1 e; omega)]
    · rw [if_neg hx, if_pos ((rk_cut hi).2 (by omega))]; rfl
theorem tL_bst : ∀ (L : List ByteArray) (us : List Nat), us.length ≤ L.length → tL (bstL L us) = bts (tL L) us
  | _, [], _ => rfl
  | L, x :: us, hl => by
    have hc : cAb x us < L.length := by have := cAb_le x us; simp only [List.length_cons] at hl; omega
    rw [bstL, bts, tL_getD _ _ hc, ← tL_erase, ← tL_bst (L.eraseIdx (cAb x us)) us (by rw [erase_len _ _ hc]; simp only [List.length_cons] at hl; omega)]
    rfl
theorem cost_bst {L : List ByteArray} {us : List Nat} (hl : us.length ≤ L.length) : cst (uAt us) (tAt (bstL L us)) us.length = bc (tL L) us := by
  rw [cst_cz _ _ (by rw [bstL_len]; exact Nat.le_refl _), tL_bst L us hl, cz_bts _ _ (by rw [tL_len]; exact hl)]
/-- The times of the letters, by their ranks. -/
theorem time_rk {L : List ByteArray} {us : List Nat} {i : Nat} (hl : us.length ≤ L.length) (hi : i < us.length) : (bts (tL L) us).getD i 0 = tAt L (rk us i) := by
  rw [← tL_bst L us hl, tL_getD _ _ (by rw [bstL_len]; exact hi)]
  unfold tAt
  rw [bstL_rk L us i hi]
/-- Letter by letter the least cost is had first with the first text of the best time. -/
theorem pick_first {L : List ByteArray} {us : List Nat} {x : Nat} (hs : (tL L).Pairwise (· ≤ ·)) (hl : us.length + 1 ≤ L.length) :
    fP L (tAt L (cAb x us)) < L.length ∧ (∀ k, k < fP L (tAt L (cAb x us)) → bc (tL L) (x :: us) < x * tAt L k + bc (tL (L.eraseIdx k)) us) ∧
    x * tAt L (fP L (tAt L (cAb x us))) + bc (tL (L.eraseIdx (fP L (tAt L (cAb x us))))) us = bc (tL L) (x :: us) := by
  have hc : cAb x us < L.length := by have := cAb_le x us; omega
  obtain ⟨h1, h2, h3⟩ := fP_at (L := L) hc rfl
  have hlt : us.length < (tL L).length := by rw [tL_len]; omega
  have hcut := sorted_cut (dsc_sorted us) x
  rw [← cAb_dsc] at hcut
  refine ⟨by omega, fun k hk => ?_, ?_⟩
  · have hne := h3 k hk
    have hle : tAt L k ≤ tAt L (cAb x us) := by
      rw [← tL_getD L k (by omega), ← tL_getD L _ hc]
      rw [List.getD_eq_getElem?_getD, List.getD_eq_getElem?_getD, List.getElem?_eq_getElem (by rw [tL_len]; omega), List.getElem?_eq_getElem (by rw [tL_len]; exact hc)]
      rcases Nat.lt_or_ge k (cAb x us) with h | h
      · exact (List.pairwise_iff_getElem.1 hs) _ _ _ _ h
      · omega
    have hg := zip_gap (tL L) (dsc us) k (cAb x us) x hs (by omega) (by rw [tL_len]; exact hc) (by rw [dsc_len]; exact cAb_le x us) (fun j hj hjc => (hcut j hj).1 hjc)
    rw [bc_cons hlt, tL_getD _ _ hc, tL_erase]
    rw [tL_getD _ _ hc, tL_getD _ _ (by omega)] at hg
    unfold bc
    omega
  · rw [bc_cons hlt, tL_getD _ _ hc, tL_first hs hc, h2]
end Go.Proofs.Ytdphjnbelggcfaa
