/-
  Plain: weights, costs. Used by the claims on chapter 8.
-/
import Derived.Test.YthkafalpjokfeaaTrcL
import Derived.Test.YthkafalpjokfeaaBfL
import Derived.Test.YthkafalpjokfeaaTableL
namespace Go.Proofs.Ythkafalpjokfeaa
open Go.RowKit
set_option linter.unusedVariables false

def okW (x : Int) : Bool := decide (0 ≤ x) && decide (x ≤ 99)
theorem okW_iff (x : Int) : okW x = true ↔ 0 ≤ x ∧ x ≤ 99 := by simp [okW]
def wtB (l : List Int) : Bool := (decide (1 ≤ l.length) && decide (l.length ≤ 10)) && l.all okW
structure IsWt (m : List Nat) : Prop where
  pos : 1 ≤ m.length
  len : m.length ≤ 10
  each : ∀ x ∈ m, x ≤ 99
theorem wtB_nat {l : List Int} (h : wtB l = true) : ∃ m, l = zs m ∧ IsWt m := by
  simp only [wtB, Bool.and_eq_true, decide_eq_true_eq, List.all_eq_true] at h
  obtain ⟨⟨h1, h2⟩, h3⟩ := h
  refine ⟨l.map Int.toNat, ?_, ⟨by simpa using h1, by simpa using h2, fun x hx => ?_⟩⟩
  · rw [zs, List.map_map]
    conv => lhs; rw [← List.map_id l]
    exact List.map_congr_left fun x hx => by
      have := (okW_iff x).1 (h3 x hx)
      simp only [id_eq, Function.comp_apply]
      omega
  · obtain ⟨y, hy, rfl⟩ := List.mem_map.1 hx
    have := (okW_iff y).1 (h3 y hy)
    omega
theorem wtB_no {l : List Int} {k : Nat} (h : k < l.length) (hx : okW l[k] = false) : wtB l = false := by
  cases h2 : wtB l
  · rfl
  · simp only [wtB, Bool.and_eq_true, List.all_eq_true] at h2
    rw [h2.2 _ (List.getElem_mem h)] at hx
    cases hx
theorem wtB_all {l : List Int} (h : ∀ j (hj : j < l.length), okW l[j] = true) : wtB l = (decide (1 ≤ l.length) && decide (l.length ≤ 10)) := by
  have : l.all okW = true := List.all_eq_true.2 fun x hx => by
    obtain ⟨j, hj, rfl⟩ := List.getElem_of_mem hx
    exact h j hj
  simp [wtB, this]

/-- Sums of products. -/
def cst (u t : Nat → Nat) : Nat → Nat
  | 0 => 0
  | n + 1 => cst u t n + u n * t n
def uAt (m : List Nat) (k : Nat) : Nat := m.getD k 0
def tAt (xs : List ByteArray) (k : Nat) : Nat := tml (bl (xs.getD k ⟨#[]⟩))
theorem uAt_eq {m : List Nat} {k : Nat} (h : k < m.length) : uAt m k = m[k] := by simp [uAt, List.getD_eq_getElem?_getD, List.getElem?_eq_getElem h]
theorem tAt_eq {xs : List ByteArray} {k : Nat} (h : k < xs.length) : tAt xs k = tml (bl xs[k]) := by simp [tAt, List.getD_eq_getElem?_getD, List.getElem?_eq_getElem h]
theorem cst_le {u t : Nat → Nat} (n : Nat) (hu : ∀ k, k < n → u k ≤ 99) (ht : ∀ k, k < n → t k ≤ 19) : cst u t n ≤ 1881 * n := by
  induction n with
  | zero => simp [cst]
  | succ n ih =>
    have h1 := ih (fun k hk => hu k (by omega)) (fun k hk => ht k (by omega))
    have h2 : u n * t n ≤ 99 * 19 := Nat.mul_le_mul (hu n (by omega)) (ht n (by omega))
    unfold cst
    omega
theorem cst_congr {u t u' t' : Nat → Nat} (n : Nat) (h : ∀ k, k < n → u k = u' k ∧ t k = t' k) : cst u t n = cst u' t' n := by
  induction n with
  | zero => rfl
  | succ n ih =>
    unfold cst
    rw [ih (fun k hk => h k (by omega)), (h n (by omega)).1, (h n (by omega)).2]
theorem table_time {xs : List ByteArray} (h : tableB xs = true) {x : ByteArray} (hx : x ∈ xs) : 1 ≤ tml (bl x) ∧ tml (bl x) ≤ 19 := by
  have h1 := ((tableB_iff xs).1 h).2.1 x hx
  simp only [marksL, Bool.and_eq_true, decide_eq_true_eq] at h1
  exact ⟨tml_pos h1.1.1, tml_le5 h1.1.2⟩
theorem tAt_le {xs : List ByteArray} (h : tableB xs = true) (k : Nat) (hk : k < xs.length) : 1 ≤ tAt xs k ∧ tAt xs k ≤ 19 := by
  rw [tAt_eq hk]; exact table_time h (List.getElem_mem hk)
theorem uAt_le {m : List Nat} (h : IsWt m) (k : Nat) : uAt m k ≤ 99 := by
  unfold uAt
  rw [List.getD_eq_getElem?_getD]
  cases e : m[k]? with
  | none => simp
  | some x => simpa using h.each x (List.mem_of_getElem? e)
/-- A Table and weights that fit. -/
def fitB (xs : List ByteArray) (l : List Int) : Bool := (tableB xs && wtB l) && decide (l.length = xs.length)
def costR (xs : List ByteArray) (l : List Int) : Nat := cst (uAt (l.map Int.toNat)) (tAt xs) l.length
theorem map_zs (m : List Nat) : (zs m).map Int.toNat = m := by
  unfold zs
  rw [List.map_map]
  conv => rhs; rw [← List.map_id m]
  exact List.map_congr_left fun x _ => by simp
theorem cost_zs (xs : List ByteArray) (m : List Nat) : costR xs (zs m) = cst (uAt m) (tAt xs) m.length := by
  unfold costR; rw [map_zs, zs_len]
theorem fit_nat {xs : List ByteArray} {l : List Int} (h : fitB xs l = true) : ∃ m, l = zs m ∧ IsWt m ∧ tableB xs = true ∧ m.length = xs.length := by
  simp only [fitB, Bool.and_eq_true, decide_eq_true_eq] at h
  obtain ⟨m, rfl, hm⟩ := wtB_nat h.1.2
  exact ⟨m, rfl, hm, h.1.1, by rw [← zs_len m]; exact h.2⟩
end Go.Proofs.Ythkafalpjokfeaa
