/-
  Plain facts on the mark distance of two texts: the least number of single mistakes, reckoned row by row. No program. Used by the claims on chapter 6.
-/
namespace Go.Proofs.Ytgdiffdpjpkleaa

def lev : List UInt8 → List UInt8 → Nat
  | [], ys => ys.length
  | _ :: xs, [] => xs.length + 1
  | x :: xs, y :: ys => min (min (lev xs ys + if x = y then 0 else 1) (lev xs (y :: ys) + 1)) (lev (x :: xs) ys + 1)
termination_by xs ys => xs.length + ys.length

theorem lev_nil_left (ys : List UInt8) : lev [] ys = ys.length := by unfold lev; rfl
theorem lev_nil_right (xs : List UInt8) : lev xs [] = xs.length := by
  cases xs with
  | nil => rw [lev_nil_left]
  | cons x xs => unfold lev; rfl
theorem lev_cons (x y : UInt8) (xs ys : List UInt8) : lev (x :: xs) (y :: ys) = min (min (lev xs ys + if x = y then 0 else 1) (lev xs (y :: ys) + 1)) (lev (x :: xs) ys + 1) := by
  rw [lev]

theorem lev_comm (xs ys : List UInt8) : lev xs ys = lev ys xs := by
  match xs, ys with
  | [], ys => rw [lev_nil_left, lev_nil_right]
  | x :: xs, [] => rw [lev_nil_left, lev_nil_right]
  | x :: xs, y :: ys =>
    rw [lev_cons, lev_cons, lev_comm xs ys, lev_comm xs (y :: ys), lev_comm (x :: xs) ys]
    have e : (if x = y then 0 else 1 : Nat) = if y = x then 0 else 1 := by
      by_cases h : x = y
      · rw [if_pos h, if_pos h.symm]
      · rw [if_neg h, if_neg (Ne.symm h)]
    rw [e]
    omega
termination_by xs.length + ys.length

theorem lev_self (xs : List UInt8) : lev xs xs = 0 := by
  induction xs with
  | nil => rw [lev_nil_left]; rfl
  | cons x xs ih => rw [lev_cons, ih]; simp
theorem lev_zero (xs ys : List UInt8) (h : lev xs ys = 0) : xs = ys := by
  match xs, ys with
  | [], ys => rw [lev_nil_left] at h; exact (List.length_eq_zero_iff.1 h).symm
  | x :: xs, [] => rw [lev_nil_right] at h; simp at h
  | x :: xs, y :: ys =>
    rw [lev_cons] at h
    by_cases e : x = y
    · rw [if_pos e] at h
      rw [e, lev_zero xs ys (by omega)]
    · rw [if_neg e] at h; omega
termination_by xs.length + ys.length
theorem lev_le (xs ys : List UInt8) : lev xs ys ≤ max xs.length ys.length := by
  match xs, ys with
  | [], ys => rw [lev_nil_left]; exact Nat.le_max_right _ _
  | x :: xs, [] => rw [lev_nil_right]; exact Nat.le_max_left _ _
  | x :: xs, y :: ys =>
    rw [lev_cons]
    have h := lev_le xs ys
    have : (if x = y then 0 else 1 : Nat) ≤ 1 := by split <;> omega
    simp only [List.length_cons]
    omega
termination_by xs.length + ys.length
theorem lev_len (xs ys : List UInt8) : xs.length ≤ ys.length + lev xs ys ∧ ys.length ≤ xs.length + lev xs ys := by
  match xs, ys with
  | [], ys => rw [lev_nil_left]; simp
  | x :: xs, [] => rw [lev_nil_right]; simp
  | x :: xs, y :: ys =>
    rw [lev_cons]
    have h1 := lev_len xs ys
    have h2 := lev_len xs (y :: ys)
    have h3 := lev_len (x :: xs) ys
    simp only [List.length_cons] at *
    omega
termination_by xs.length + ys.length

/-- Taking the first letter away on either side costs one mistake at most. -/
theorem lev_drop_left (x : UInt8) (xs ys : List UInt8) : lev xs ys ≤ lev (x :: xs) ys + 1 := by
  match ys with
  | [] => rw [lev_nil_right, lev_nil_right]; simp only [List.length_cons]; omega
  | y :: ys =>
    have h1 := lev_drop_left x xs ys
    rw [lev_cons x y]
    have h2 : lev xs (y :: ys) ≤ lev xs ys + 1 := by
      match xs with
      | [] => rw [lev_nil_left, lev_nil_left]; simp
      | z :: zs => rw [lev_cons]; omega
    omega
termination_by ys.length

theorem lev_tri (xs ys zs : List UInt8) : lev xs zs ≤ lev xs ys + lev ys zs := by
  match xs, ys, zs with
  | [], ys, zs => rw [lev_nil_left, lev_nil_left]; have := (lev_len ys zs).2; omega
  | x :: xs, ys, [] => rw [lev_nil_right, lev_nil_right]; have := (lev_len (x :: xs) ys).1; omega
  | x :: xs, [], z :: zs => rw [lev_nil_left, lev_nil_right]; have := lev_le (x :: xs) (z :: zs); simp only [List.length_cons] at *; omega
  | x :: xs, y :: ys, z :: zs =>
    have a1 := lev_tri xs ys zs
    have a2 := lev_tri xs ys (z :: zs)
    have a3 := lev_tri xs (y :: ys) (z :: zs)
    have a4 := lev_tri (x :: xs) ys zs
    have a5 := lev_tri (x :: xs) (y :: ys) zs
    have a6 := lev_tri (x :: xs) ys (z :: zs)
    have a7 := lev_tri xs (y :: ys) zs
    have d1 := lev_drop_left y ys (z :: zs)
    have ex : (if x = z then 0 else 1 : Nat) ≤ (if x = y then 0 else 1) + (if y = z then 0 else 1) := by
      by_cases e1 : x = y
      · subst e1; rw [if_pos rfl]; omega
      · rw [if_neg e1]; split <;> omega
    have l1 : lev xs (z :: zs) ≤ lev xs zs + 1 := by
      match xs with
      | [] => rw [lev_nil_left, lev_nil_left]; simp
      | w :: ws => rw [lev_cons]; omega
    rw [lev_cons x z, lev_cons x y, lev_cons y z] at *
    omega
termination_by xs.length + ys.length + zs.length

/-! ### The distance of two texts, from their beginnings -/
def dist (a b : List UInt8) : Nat := lev a.reverse b.reverse
/-- Row i, column j. -/
def rowD (a b : List UInt8) (i j : Nat) : Nat := dist (a.take i) (b.take j)
theorem dist_comm (a b : List UInt8) : dist a b = dist b a := lev_comm _ _
theorem dist_self (a : List UInt8) : dist a a = 0 := lev_self _
theorem dist_zero {a b : List UInt8} (h : dist a b = 0) : a = b := by
  have := congrArg List.reverse (lev_zero _ _ h)
  simpa using this
theorem dist_le (a b : List UInt8) : dist a b ≤ max a.length b.length := by simpa [dist] using lev_le a.reverse b.reverse
theorem dist_tri (a b c : List UInt8) : dist a c ≤ dist a b + dist b c := lev_tri _ _ _
theorem dist_len (a b : List UInt8) : a.length ≤ b.length + dist a b ∧ b.length ≤ a.length + dist a b := by simpa [dist] using lev_len a.reverse b.reverse
theorem rowD_zero (a b : List UInt8) (j : Nat) (h : j ≤ b.length) : rowD a b 0 j = j := by
  simp [rowD, dist, lev_nil_left, Nat.min_eq_left h]
theorem rowD_first (a b : List UInt8) (i : Nat) (h : i ≤ a.length) : rowD a b i 0 = i := by
  simp [rowD, dist, lev_nil_right, Nat.min_eq_left h]
theorem rowD_le (a b : List UInt8) (i j : Nat) : rowD a b i j ≤ i + j := by
  have := dist_le (a.take i) (b.take j)
  have h1 := List.length_take_le i a
  have h2 := List.length_take_le j b
  unfold rowD
  omega
theorem rowD_full (a b : List UInt8) : rowD a b a.length b.length = dist a b := by simp [rowD]
theorem take_rev {a : List UInt8} {i : Nat} {x : UInt8} (h : a[i]? = some x) : (a.take (i + 1)).reverse = x :: (a.take i).reverse := by
  rw [List.take_add_one, h]; simp
theorem rowD_step {a b : List UInt8} {i j : Nat} {x y : UInt8} (hx : a[i]? = some x) (hy : b[j]? = some y) :
    rowD a b (i + 1) (j + 1) = min (min (rowD a b i j + if x = y then 0 else 1) (rowD a b i (j + 1) + 1)) (rowD a b (i + 1) j + 1) := by
  simp only [rowD, dist]
  rw [take_rev hx, take_rev hy, lev_cons]
/-- Beyond the last one a row stays as it is. -/
theorem dist_even {a b : List UInt8} {p q : UInt8} (hl : a.length = b.length) (hne : a ≠ b) (hpq : p ≠ q) : 2 ≤ dist (a ++ [p]) (b ++ [q]) := by
  have e : dist (a ++ [p]) (b ++ [q]) = lev (p :: a.reverse) (q :: b.reverse) := by simp [dist]
  rw [e, lev_cons, if_neg hpq]
  have h1 : 0 < lev a.reverse b.reverse := Nat.pos_of_ne_zero fun h => hne (by simpa using congrArg List.reverse (lev_zero _ _ h))
  have h2 := (lev_len a.reverse (q :: b.reverse)).2
  have h3 := (lev_len (p :: a.reverse) b.reverse).1
  simp only [List.length_cons, List.length_reverse] at h2 h3
  omega
def cnt (c : UInt8) (l : List UInt8) : Nat := l.countP (fun x => x == c)
/-- Two texts of one length with one mistake between them: the numbers of a mark are one apart, or the mark is no part of it. -/
theorem lev_one_same {xs ys : List UInt8} (hl : xs.length = ys.length) (h : lev xs ys ≤ 1) (hm : ∀ c ∈ xs ++ ys, c = 46 ∨ c = 45) : cnt 45 xs + cnt 45 ys + lev xs ys = 2 * max (cnt 45 xs) (cnt 45 ys) := by
  match xs, ys with
  | [], [] => simp [cnt, lev_nil_left]
  | [], y :: ys => simp at hl
  | x :: xs, [] => simp at hl
  | x :: xs, y :: ys =>
    simp only [List.length_cons, Nat.add_right_cancel_iff] at hl
    have h2 := (lev_len xs (y :: ys)).2
    have h3 := (lev_len (x :: xs) ys).1
    simp only [List.length_cons] at h2 h3
    rw [lev_cons] at h ⊢
    have hx : x = 46 ∨ x = 45 := hm x (by simp)
    have hy : y = 46 ∨ y = 45 := hm y (by simp)
    have hm' : ∀ c ∈ xs ++ ys, c = 46 ∨ c = 45 := fun c hc => hm c (by
      rcases List.mem_append.1 hc with h | h
      · simp [h]
      · simp [h])
    by_cases e : x = y
    · subst e
      rw [if_pos rfl] at h ⊢
      have ih := lev_one_same hl (by omega) hm'
      have hc : ∀ l, cnt 45 (x :: l) = cnt 45 l + cnt 45 [x] := fun l => by simp [cnt, List.countP_cons]
      rw [hc xs, hc ys]
      omega
    · rw [if_neg e] at h ⊢
      have h0 : lev xs ys = 0 := by omega
      have e2 := lev_zero _ _ h0
      subst e2
      rw [h0]
      rcases hx with rfl | rfl <;> rcases hy with rfl | rfl
      · exact absurd rfl e
      · simp [cnt]; omega
      · simp [cnt]; omega
      · exact absurd rfl e
theorem cnt_rev (c : UInt8) (l : List UInt8) : cnt c l.reverse = cnt c l := by simp [cnt, List.countP_reverse]
theorem dist_one_same {a b : List UInt8} (hl : a.length = b.length) (h : dist a b = 1) (hm : ∀ c ∈ a ++ b, c = 46 ∨ c = 45) : cnt 45 a % 2 ≠ cnt 45 b % 2 := by
  have := lev_one_same (xs := a.reverse) (ys := b.reverse) (by simpa using hl) (by unfold dist at h; omega) (fun c hc => hm c (by simpa [or_comm] using hc))
  rw [cnt_rev, cnt_rev] at this
  unfold dist at h
  omega
end Go.Proofs.Ytgdiffdpjpkleaa
