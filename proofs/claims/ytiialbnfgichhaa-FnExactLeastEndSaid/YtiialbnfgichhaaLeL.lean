/-
  Plain facts on the least end. No program. Used by the claim on LeastEnd.
-/
import Derived.Test.YtiialbnfgichhaaLoadL
namespace Go.Proofs.Ytiialbnfgichhaa
set_option linter.unusedVariables false
/-- The greatest one of the first k numbers of a list, at least b. -/
def mxTo (y : List Nat) (b : Nat) : Nat → Nat
  | 0 => b
  | k + 1 => max (mxTo y b k) (y.getD k 0)
/-- When a job can end at the earliest. -/
def jobEnd (j : Jb) : Nat := (j.st + stp j * j.sp).toNat
def leTo (l : List Jb) (b : Nat) : Nat → Nat
  | 0 => b
  | i + 1 => max (leTo l b i) (jobEnd (jAt l i))
def leastE (m : Nat) (l : List Jb) : Nat := leTo l (mxTo (loads m l) 0 m) l.length
theorem mxTo_le {y : List Nat} {b B : Nat} (hb : b ≤ B) (h : ∀ x ∈ y, x ≤ B) : ∀ k, mxTo y b k ≤ B := by
  intro k
  induction k with
  | zero => exact hb
  | succ k ih =>
    simp only [mxTo]
    have : y.getD k 0 ≤ B := by
      rw [List.getD_eq_getElem?_getD]
      cases e : y[k]? with
      | none => exact Nat.zero_le _
      | some v => exact h v (List.mem_of_getElem? e)
    omega
theorem mxTo_first {y : List Nat} (hy : 0 < y.length) : mxTo y 0 1 = y.getD 0 0 := by simp [mxTo]
theorem jobEnd_eq {n : Int} {j : Jb} (hv : JobV n j) (h6 : n ≤ 6) : ((jobEnd j : Nat) : Int) = j.st + stp j * j.sp ∧ jobEnd j ≤ 1359 ∧ 0 ≤ stp j * j.sp ∧ stp j * j.sp ≤ 360 := by
  have hs := stp_pos hv
  have s0 := hv.sp0
  have s1 := hv.sp1
  have t0 := hv.st0
  have t1 := hv.st1
  have h1 : 0 ≤ stp j * j.sp := Int.mul_nonneg (by omega) (by omega)
  have h2 : stp j * j.sp ≤ 6 * 60 := Int.mul_le_mul (by omega) s1 (by omega) (by omega)
  unfold jobEnd
  omega
theorem leTo_le {n : Int} {l : List Jb} (hv : JobsV n l) {b B : Nat} (hb : b ≤ B) (hB : 1359 ≤ B) : ∀ i, i ≤ l.length → leTo l b i ≤ B := by
  intro i
  induction i with
  | zero => intro _; exact hb
  | succ i ih =>
    intro hi
    have := ih (by omega)
    have := (jobEnd_eq (jobV_at hv (k := i) (by omega)) hv.n1).2.1
    simp only [leTo]; omega
theorem loads_le {n : Int} {l : List Jb} (hv : JobsV n l) (m : Nat) : ∀ x ∈ loads m l, x ≤ 3000 := fun x hx => by
  obtain ⟨j, hj, rfl⟩ := List.mem_map.1 hx
  have := ldTo_le hv l.length (Nat.le_refl _) j
  have := hv.len
  omega
theorem max_cast (a b : Nat) : (max (a : Int) (b : Int)) = ((max a b : Nat) : Int) := by omega
end Go.Proofs.Ytiialbnfgichhaa
