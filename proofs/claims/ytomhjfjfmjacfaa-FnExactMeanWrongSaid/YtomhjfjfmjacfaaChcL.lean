/-
  Plain facts on the chance that marks come of others: parts of the power of the denominator; all that can come are all parts. No program. Used by the claims on chapter 7.
-/
import Derived.Test.YtomhjfjfmjacfaaFracL
namespace Go.Proofs.Ytomhjfjfmjacfaa
set_option linter.unusedVariables false

/-- Parts (of q + p to the power of the length) in which a text comes of another one: q for a place that is the same, p for one that is not. -/
def prL (p q : Nat) : List UInt8 → List UInt8 → Nat
  | [], [] => 1
  | [], _ :: _ => 0
  | _ :: _, [] => 0
  | x :: xs, y :: ys => (if x = y then q else p) * prL p q xs ys
/-- At how many places two texts differ. -/
def apL : List UInt8 → List UInt8 → Nat
  | x :: xs, y :: ys => (if x = y then 0 else 1) + apL xs ys
  | _, _ => 0
theorem apL_le : ∀ (xs ys : List UInt8), apL xs ys ≤ xs.length
  | [], ys => by cases ys <;> exact Nat.le_refl _
  | _ :: _, [] => Nat.zero_le _
  | x :: xs, y :: ys => by
    have := apL_le xs ys
    simp only [apL, List.length_cons]
    split <;> omega
theorem prL_ne (p q : Nat) : ∀ (xs ys : List UInt8), xs.length ≠ ys.length → prL p q xs ys = 0
  | [], [], h => absurd rfl h
  | [], _ :: _, _ => rfl
  | _ :: _, [], _ => rfl
  | x :: xs, y :: ys, h => by
    simp only [prL]
    rw [prL_ne p q xs ys (fun e => h (by simp [e])), Nat.mul_zero]
theorem prL_pow (p q : Nat) : ∀ (xs ys : List UInt8), xs.length = ys.length → prL p q xs ys = p ^ apL xs ys * q ^ (xs.length - apL xs ys)
  | [], [], _ => rfl
  | [], _ :: _, h => by simp at h
  | _ :: _, [], h => by simp at h
  | x :: xs, y :: ys, h => by
    have ih := prL_pow p q xs ys (by simpa using h)
    have hl := apL_le xs ys
    simp only [prL, apL, List.length_cons]
    rw [ih]
    by_cases he : x = y
    · rw [if_pos he, if_pos he, Nat.zero_add, show xs.length + 1 - apL xs ys = (xs.length - apL xs ys) + 1 by omega, Nat.pow_succ]
      rw [Nat.mul_left_comm, Nat.mul_comm q]
    · rw [if_neg he, if_neg he, show xs.length + 1 - (1 + apL xs ys) = xs.length - apL xs ys by omega, Nat.add_comm 1, Nat.pow_succ]
      rw [← Nat.mul_assoc, Nat.mul_comm p]
theorem prL_snoc (p q : Nat) (x y : UInt8) : ∀ (xs ys : List UInt8), xs.length = ys.length → prL p q (xs ++ [x]) (ys ++ [y]) = prL p q xs ys * (if x = y then q else p)
  | [], [], _ => by simp [prL]
  | [], _ :: _, h => by simp at h
  | _ :: _, [], h => by simp at h
  | a :: xs, b :: ys, h => by
    have ih := prL_snoc p q x y xs ys (by simpa using h)
    simp only [List.cons_append, prL]
    rw [ih, Nat.mul_assoc]
theorem prL_le (p q : Nat) : ∀ (xs ys : List UInt8), prL p q xs ys ≤ (p + q) ^ xs.length
  | [], [] => Nat.le_refl _
  | [], _ :: _ => Nat.zero_le _
  | _ :: _, [] => Nat.zero_le _
  | x :: xs, y :: ys => by
    have ih := prL_le p q xs ys
    simp only [prL, List.length_cons, Nat.pow_succ]
    rw [Nat.mul_comm]
    exact Nat.mul_le_mul ih (by split <;> omega)
theorem prL_same (p q : Nat) : ∀ (xs : List UInt8), prL p q xs xs = q ^ xs.length
  | [] => rfl
  | x :: xs => by simp only [prL, List.length_cons, Nat.pow_succ]; rw [prL_same p q xs]; simp [Nat.mul_comm]

/-- The tails of the texts that begin with a sign. -/
def tlL (x : UInt8) : List (List UInt8) → List (List UInt8)
  | [] => []
  | [] :: ts => tlL x ts
  | (y :: t) :: ts => if y = x then t :: tlL x ts else tlL x ts
theorem mem_tl {x : UInt8} {t : List UInt8} : ∀ {ts : List (List UInt8)}, t ∈ tlL x ts ↔ (x :: t) ∈ ts
  | [] => by simp [tlL]
  | [] :: ts => by simp only [tlL]; rw [mem_tl (ts := ts)]; simp
  | (y :: u) :: ts => by
    simp only [tlL]
    by_cases h : y = x
    · subst h
      rw [if_pos rfl, List.mem_cons, List.mem_cons, mem_tl (ts := ts)]
      simp
    · rw [if_neg h, mem_tl (ts := ts), List.mem_cons]
      constructor
      · exact .inr
      · rintro (e | e)
        · exact absurd (List.cons.inj e).1.symm h
        · exact e
theorem nodup_tl (x : UInt8) : ∀ {ts : List (List UInt8)}, ts.Nodup → (tlL x ts).Nodup
  | [], _ => List.nodup_nil
  | [] :: ts, h => by
    have := nodup_tl x (List.nodup_cons.1 h).2
    exact this
  | (y :: u) :: ts, h => by
    have ih := nodup_tl x (List.nodup_cons.1 h).2
    simp only [tlL]
    split
    · rename_i e
      subst e
      exact List.nodup_cons.2 ⟨fun hm => (List.nodup_cons.1 h).1 (mem_tl.1 hm), ih⟩
    · exact ih
def otherS (x : UInt8) : UInt8 := if x = 46 then 45 else 46
def isD (x : UInt8) : Prop := x = 46 ∨ x = 45
theorem sum_parts (p q : Nat) (x : UInt8) (xs : List UInt8) (hx : isD x) : ∀ (ts : List (List UInt8)), (∀ t ∈ ts, ∀ y ∈ t, isD y) →
    (ts.map (prL p q (x :: xs))).sum = q * ((tlL x ts).map (prL p q xs)).sum + p * ((tlL (otherS x) ts).map (prL p q xs)).sum
  | [], _ => by simp [tlL]
  | [] :: ts, h => by
    have ih := sum_parts p q x xs hx ts (fun t ht => h t (List.mem_cons_of_mem _ ht))
    simp only [List.map_cons, List.sum_cons, tlL, prL]
    rw [ih]; omega
  | (y :: u) :: ts, h => by
    have ih := sum_parts p q x xs hx ts (fun t ht => h t (List.mem_cons_of_mem _ ht))
    have hy : isD y := h (y :: u) (List.mem_cons_self ..) y (List.mem_cons_self ..)
    simp only [List.map_cons, List.sum_cons, tlL, prL]
    rw [ih]
    by_cases e : x = y
    · subst e
      have hne : ¬ x = otherS x := by unfold otherS; split <;> rename_i e2 <;> simp_all
      rw [if_pos rfl, if_pos rfl, if_neg hne, List.map_cons, List.sum_cons, Nat.mul_add]
      omega
    · have he : y = otherS x := by
        unfold otherS isD at *
        rcases hx with rfl | rfl <;> rcases hy with rfl | rfl <;> simp_all
      rw [if_neg e, if_neg (fun h => e h.symm), if_pos he, List.map_cons, List.sum_cons, Nat.mul_add]
      omega
/-- Different texts that come of one take all parts at most. -/
theorem sum_all (p q : Nat) : ∀ (xs : List UInt8) (ts : List (List UInt8)), (∀ x ∈ xs, isD x) → (∀ t ∈ ts, ∀ y ∈ t, isD y) → ts.Nodup → (ts.map (prL p q xs)).sum ≤ (p + q) ^ xs.length
  | [], ts, _, _, hn => by
    induction ts with
    | nil => simp
    | cons t ts ih =>
      rename_i hx ht
      cases t with
      | cons y u =>
        have := ih (fun t h => ht t (List.mem_cons_of_mem _ h)) (List.nodup_cons.1 hn).2
        simpa [prL] using this
      | nil =>
        have hno : (ts.map (prL p q [])).sum = 0 := by
          have hmem := (List.nodup_cons.1 hn).1
          clear ih ht hn
          induction ts with
          | nil => rfl
          | cons t ts ih2 =>
            cases t with
            | nil => exact absurd (List.mem_cons_self ..) hmem
            | cons y u =>
              have := ih2 (fun h => hmem (List.mem_cons_of_mem _ h))
              simpa [prL] using this
        simp only [List.map_cons, List.sum_cons, hno, prL]
        simp
  | x :: xs, ts, hx, ht, hn => by
    have hd := hx x (List.mem_cons_self ..)
    rw [sum_parts p q x xs hd ts ht]
    have i1 := sum_all p q xs (tlL x ts) (fun y h => hx y (List.mem_cons_of_mem _ h)) (fun t h y hy => ht _ (mem_tl.1 h) y (List.mem_cons_of_mem _ hy)) (nodup_tl x hn)
    have i2 := sum_all p q xs (tlL (otherS x) ts) (fun y h => hx y (List.mem_cons_of_mem _ h)) (fun t h y hy => ht _ (mem_tl.1 h) y (List.mem_cons_of_mem _ hy)) (nodup_tl (otherS x) hn)
    rw [List.length_cons, Nat.pow_succ, Nat.mul_comm _ (p + q), Nat.add_mul]
    have m1 := Nat.mul_le_mul_left q i1
    have m2 := Nat.mul_le_mul_left p i2
    omega
end Go.Proofs.Ytomhjfjfmjacfaa
