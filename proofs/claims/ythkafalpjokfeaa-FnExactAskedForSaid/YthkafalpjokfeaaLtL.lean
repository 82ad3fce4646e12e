/-
  Chapter 11, pure: which lists are letters, the letters behind some marks, when a letter is told, answers and parts. Used by the claims on chapter 11.
-/
import Derived.Test.YthkafalpjokfeaaWgL
import Derived.Test.YthkafalpjokfeaaTrcL
namespace Go.Proofs.Ythkafalpjokfeaa
open Go.RowKit
set_option linter.unusedVariables false

def atL (xs : List ByteArray) (i : Nat) : ByteArray := xs.getD i ⟨#[]⟩
theorem atL_eq {xs : List ByteArray} {i : Nat} {x : ByteArray} (h : xs[i]? = some x) : atL xs i = x := by
  unfold atL
  rw [List.getD_eq_getElem?_getD, h]; rfl
/-- The marks x begin with the marks y. -/
def begB (x y : ByteArray) : Bool := (bl y).isPrefixOf (bl x)

/-! ### Letters -/
def okL (n : Nat) (l : List Int) (j : Nat) : Bool := decide (0 ≤ l.getD j 0) && decide (l.getD j 0 < (n : Int)) && (decide (j = 0) || decide (l.getD (j - 1) 0 < l.getD j 0))
def ltB (n : Nat) (l : List Int) : Bool := decide (0 < l.length) && (List.range l.length).all (okL n l)
theorem okL_iff {n : Nat} {l : List Int} {j : Nat} : okL n l j = true ↔ 0 ≤ l.getD j 0 ∧ l.getD j 0 < (n : Int) ∧ (j ≠ 0 → l.getD (j - 1) 0 < l.getD j 0) := by
  simp only [okL, Bool.and_eq_true, Bool.or_eq_true, decide_eq_true_eq, and_assoc]
  constructor
  · rintro ⟨h1, h2, h3⟩; exact ⟨h1, h2, fun h => h3.resolve_left h⟩
  · rintro ⟨h1, h2, h3⟩; exact ⟨h1, h2, by by_cases h : j = 0; exact .inl h; exact .inr (h3 h)⟩
theorem okL_no {n : Nat} {l : List Int} {j : Nat} (h : ¬ (0 ≤ l.getD j 0 ∧ l.getD j 0 < (n : Int) ∧ (j ≠ 0 → l.getD (j - 1) 0 < l.getD j 0))) : okL n l j = false := by
  rw [Bool.eq_false_iff]; exact fun e => h (okL_iff.1 e)
theorem ltB_no {n : Nat} {l : List Int} {j : Nat} (hj : j < l.length) (h : okL n l j = false) : ltB n l = false := by
  rw [Bool.eq_false_iff]; intro e
  simp only [ltB, Bool.and_eq_true, List.all_eq_true, List.mem_range] at e
  rw [e.2 j hj] at h; cases h
theorem ltB_all {n : Nat} {l : List Int} (h : ∀ j, j < l.length → okL n l j = true) : ltB n l = decide (0 < l.length) := by
  have : (List.range l.length).all (okL n l) = true := by
    simp only [List.all_eq_true, List.mem_range]; exact h
  unfold ltB; rw [this, Bool.and_true]
theorem ltB_iff {n : Nat} {l : List Int} : ltB n l = true ↔ 0 < l.length ∧ ∀ j, j < l.length → okL n l j = true := by
  simp only [ltB, Bool.and_eq_true, List.all_eq_true, List.mem_range, decide_eq_true_eq]
theorem okL_ge {n : Nat} {l : List Int} : ∀ k, (∀ j, j < k → okL n l j = true) → ∀ j, j < k → (j : Int) ≤ l.getD j 0 := by
  intro k h j
  induction j with
  | zero => intro h0; exact (okL_iff.1 (h 0 h0)).1
  | succ j ih =>
    intro hj
    have h1 := ih (by omega)
    have h2 := (okL_iff.1 (h (j + 1) hj)).2.2 (by omega)
    rw [Nat.add_sub_cancel] at h2
    omega
theorem okL_len {n : Nat} {l : List Int} {k : Nat} (h : ∀ j, j < k → okL n l j = true) : k ≤ n := by
  rcases Nat.eq_zero_or_pos k with e | e
  · omega
  · have h1 := okL_ge k h (k - 1) (by omega)
    have h2 := (okL_iff.1 (h (k - 1) (by omega))).2.1
    omega
theorem getD_at {l : List Int} {j : Nat} (hj : j < l.length) : l.getD j 0 = l[j] := by
  rw [List.getD_eq_getElem?_getD, List.getElem?_eq_getElem hj]; rfl
/-- Letters, as naturals. -/
theorem ltB_nat {n : Nat} {l : List Int} (h : ltB n l = true) : ∃ m : List Nat, l = zs m ∧ m ≠ [] ∧ (∀ i ∈ m, i < n) ∧ m.Pairwise (· < ·) ∧ m.length ≤ n := by
  obtain ⟨h0, hA⟩ := ltB_iff.1 h
  refine ⟨l.map Int.toNat, ?_, ?_, ?_, ?_, ?_⟩
  · refine List.ext_getElem (by rw [zs_len, List.length_map]) fun j hj hj2 => ?_
    have h1 := (okL_iff.1 (hA j hj)).1
    rw [getD_at hj] at h1
    have h2 : (zs (l.map Int.toNat))[j] = (((l.map Int.toNat)[j]'(by simpa using hj) : Nat) : Int) := by simp [zs]
    rw [h2, List.getElem_map]
    omega
  · intro e
    have := congrArg List.length e
    rw [List.length_map] at this
    simp at this
    rw [this] at h0
    simp at h0
  · intro i hi
    obtain ⟨x, hx, rfl⟩ := List.mem_map.1 hi
    obtain ⟨j, hj, rfl⟩ := List.getElem_of_mem hx
    have h1 := okL_iff.1 (hA j hj)
    rw [getD_at hj] at h1
    omega
  · have key : ∀ d j, j + d < l.length → 0 < d → l.getD j 0 < l.getD (j + d) 0 := by
      intro d j
      induction d with
      | zero => intro _ h; omega
      | succ d ih =>
        intro hj _
        have h2 := (okL_iff.1 (hA (j + (d + 1)) hj)).2.2 (by omega)
        rw [show j + (d + 1) - 1 = j + d by omega] at h2
        rcases Nat.eq_zero_or_pos d with e | e
        · subst e; exact h2
        · have := ih (by omega) e; omega
    rw [List.pairwise_iff_getElem]
    intro i j hi hj hij
    rw [List.length_map] at hi hj
    rw [List.getElem_map, List.getElem_map]
    have h1 := key (j - i) i (by omega) (by omega)
    rw [show i + (j - i) = j by omega, getD_at hi, getD_at hj] at h1
    have h2 := (okL_iff.1 (hA i hi)).1
    rw [getD_at hi] at h2
    omega
  · rw [List.length_map]; exact okL_len hA

/-! ### Behind some marks -/
def behL (xs : List ByteArray) (p : ByteArray) (k : Nat) : List Nat := (List.range k).filter fun j => begB (atL xs j) p
theorem behL_succ (xs : List ByteArray) (p : ByteArray) (k : Nat) : behL xs p (k + 1) = behL xs p k ++ (if begB (atL xs k) p = true then [k] else []) := by
  unfold behL
  rw [List.range_succ, List.filter_append]
  congr 1
  by_cases h : begB (atL xs k) p = true <;> simp [h]
theorem behL_le (xs : List ByteArray) (p : ByteArray) (k : Nat) : (behL xs p k).length ≤ k := by
  have := List.length_filter_le (fun j => begB (atL xs j) p) (List.range k)
  rw [List.length_range] at this
  exact this
/-- How many letters are behind the first marks of a letter. -/
def behN (xs : List ByteArray) (x : ByteArray) (n : Nat) : Nat := (behL xs (x.extract 0 n) xs.length).length
/-- How many marks have to be heard. -/
def hrd (xs : List ByteArray) (x : ByteArray) : Nat := (List.range (x.size + 1)).findIdx fun n => behN xs x n == 1
theorem hrd_hit {xs : List ByteArray} {x : ByteArray} {k : Nat} (hk : k ≤ x.size) (h : behN xs x k = 1) (hb : ∀ j, j < k → behN xs x j ≠ 1) : hrd xs x = k := by
  unfold hrd
  rw [List.findIdx_eq (by rw [List.length_range]; omega)]
  refine ⟨by rw [List.getElem_range]; simp [h], fun j hj => ?_⟩
  rw [List.getElem_range]
  simp [hb j hj]
theorem hrd_miss {xs : List ByteArray} {x : ByteArray} (hb : ∀ j, j < x.size + 1 → behN xs x j ≠ 1) : hrd xs x = x.size + 1 := by
  unfold hrd
  rw [List.findIdx_eq_length_of_false, List.length_range]
  intro j hj
  rw [List.mem_range] at hj
  simp [hb j hj]
theorem hrd_le (xs : List ByteArray) (x : ByteArray) : hrd xs x ≤ x.size + 1 := by
  have := List.findIdx_le_length (xs := List.range (x.size + 1)) (p := fun n => behN xs x n == 1)
  rw [List.length_range] at this
  exact this

/-! ### Answers -/
def ansB (x : ByteArray) (p : Nat) : Nat := if x.size ≤ p then 2 else if (bl x)[p]? = some 45 then 1 else 0
theorem ansB_lt (x : ByteArray) (p : Nat) : ansB x p < 3 := by
  unfold ansB
  split
  · omega
  · split <;> omega
/-- Which letters have an answer. -/
def partK (xs : List ByteArray) (m : List Nat) (p q : Nat) : List Nat := m.filter fun i => ansB (atL xs i) p == q
theorem partK_snoc (xs : List ByteArray) (m : List Nat) (i p q : Nat) : partK xs (m ++ [i]) p q = partK xs m p q ++ (if ansB (atL xs i) p = q then [i] else []) := by
  unfold partK
  rw [List.filter_append]
  congr 1
  by_cases h : ansB (atL xs i) p = q <;> simp [h]
theorem partK_le (xs : List ByteArray) (m : List Nat) (p q : Nat) : (partK xs m p q).length ≤ m.length := List.length_filter_le _ _
theorem partK_mem {xs : List ByteArray} {m : List Nat} {p q i : Nat} : i ∈ partK xs m p q ↔ i ∈ m ∧ ansB (atL xs i) p = q := by
  unfold partK; rw [List.mem_filter]; simp
end Go.Proofs.Ythkafalpjokfeaa
