/-
  Plain facts on noise: which noises are valid, the parts in which marks come, what can come. No program. Used by the claims on chapter 7.
-/
import Derived.Test.YtomhjfjfmjacfaaChcL
import Derived.Test.YtomhjfjfmjacfaaTabT
namespace Go.Proofs.Ytomhjfjfmjacfaa
set_option linter.unusedVariables false

def goodN (N d : Int) : Bool := decide (1 ≤ d) && decide (d ≤ 100) && (decide (0 ≤ N) && decide (N ≤ d))
theorem goodN_iff {N d : Int} : goodN N d = true ↔ ∃ p q : Nat, N = (p : Int) ∧ d = ((p + q : Nat) : Int) ∧ 1 ≤ p + q ∧ p + q ≤ 100 := by
  unfold goodN
  simp only [Bool.and_eq_true, decide_eq_true_eq]
  constructor
  · intro h
    exact ⟨N.toNat, (d - N).toNat, by omega, by omega, by omega, by omega⟩
  · rintro ⟨p, q, rfl, rfl, h1, h2⟩
    omega
/-- The parts of all in which a text comes of another one. -/
def ptN (p q : Nat) (x y : Bs) : Nat := prL p q x y * (p + q) ^ (5 - x.length)
/-- All parts. -/
def allN (p q : Nat) : Nat := (p + q) ^ 5
def frN (p q : Nat) (x y : Bs) : Nat × Nat := cutN (ptN p q x y) (allN p q)
theorem pow_le5 {n k : Nat} (h1 : 1 ≤ n) (h : n ≤ 100) (hk : k ≤ 5) : n ^ k ≤ 10000000000 := by
  calc n ^ k ≤ n ^ 5 := Nat.pow_le_pow_right h1 hk
    _ ≤ 100 ^ 5 := Nat.pow_le_pow_left h 5
    _ = 10000000000 := rfl
theorem allN_pos {p q : Nat} (h : 1 ≤ p + q) : 0 < allN p q := Nat.pow_pos h
theorem allN_le {p q : Nat} (h1 : 1 ≤ p + q) (h : p + q ≤ 100) : allN p q ≤ 10000000000 := pow_le5 h1 h (Nat.le_refl _)
theorem allN_split {p q k : Nat} (h : k ≤ 5) : (p + q) ^ k * (p + q) ^ (5 - k) = allN p q := by
  unfold allN
  rw [← Nat.pow_add]
  congr 1
  omega
theorem ptN_le {p q : Nat} {x y : Bs} (hx : x.length ≤ 5) : ptN p q x y ≤ allN p q := by
  rw [← allN_split hx]
  exact Nat.mul_le_mul_right _ (prL_le p q x y)
theorem frN_eq {p q : Nat} {x y : Bs} (h1 : 1 ≤ p + q) (hx : x.length ≤ 5) : cutN (prL p q x y) ((p + q) ^ x.length) = frN p q x y := by
  unfold frN ptN
  rw [← allN_split hx, Nat.mul_comm (prL p q x y), Nat.mul_comm ((p + q) ^ x.length)]
  exact (cut_scale (Nat.pow_pos h1) _ _).symm
/-- The model's product. -/
theorem ptN_pow {p q : Nat} {x y : Bs} (h : x.length = y.length) : ptN p q x y = p ^ apL x y * q ^ (x.length - apL x y) * (p + q) ^ (5 - x.length) := by
  unfold ptN
  rw [prL_pow p q x y h]
theorem ptN_ne {p q : Nat} {x y : Bs} (h : x.length ≠ y.length) : ptN p q x y = 0 := by
  unfold ptN
  rw [prL_ne p q x y h, Nat.zero_mul]
theorem pow_part {p q d n : Nat} (h1 : 1 ≤ p + q) (h : p + q ≤ 100) (hd : d ≤ n) (hn : n ≤ 5) : p ^ d * q ^ (n - d) ≤ (p + q) ^ n := by
  calc p ^ d * q ^ (n - d) ≤ (p + q) ^ d * (p + q) ^ (n - d) := Nat.mul_le_mul (Nat.pow_le_pow_left (Nat.le_add_right _ _) _) (Nat.pow_le_pow_left (Nat.le_add_left _ _) _)
    _ = (p + q) ^ n := by rw [← Nat.pow_add]; congr 1; omega

/-- Whether a text can come of another one. -/
def canN (p q : Nat) (x y : Bs) : Bool := decide (0 < ptN p q x y)
theorem can_pr {p q : Nat} {x y : Bs} (h1 : 1 ≤ p + q) : canN p q x y = decide (0 < prL p q x y) := by
  unfold canN ptN
  have := Nat.pow_pos (n := 5 - x.length) h1
  apply decide_eq_decide.2
  constructor
  · intro h
    rcases Nat.eq_zero_or_pos (prL p q x y) with e | e
    · rw [e, Nat.zero_mul] at h; omega
    · exact e
  · intro h; exact Nat.mul_pos h this
theorem pr_pos {p q : Nat} (hp : 0 < p) (hq : 0 < q) : ∀ (x y : Bs), (0 < prL p q x y ↔ x.length = y.length)
  | [], [] => by simp [prL]
  | [], _ :: _ => by simp [prL]
  | _ :: _, [] => by simp [prL]
  | a :: x, b :: y => by
    simp only [prL, List.length_cons]
    rw [Nat.mul_pos_iff_of_pos_left (by split <;> assumption), pr_pos hp hq x y]
    omega
theorem pr_none {q : Nat} (hq : 0 < q) : ∀ (x y : Bs), (0 < prL 0 q x y ↔ x = y)
  | [], [] => by simp [prL]
  | [], _ :: _ => by simp [prL]
  | _ :: _, [] => by simp [prL]
  | a :: x, b :: y => by
    simp only [prL, List.cons.injEq]
    by_cases h : a = b
    · rw [if_pos h, Nat.mul_pos_iff_of_pos_left hq, pr_none hq x y]; simp [h]
    · rw [if_neg h]; simp [h]
theorem pr_each {p : Nat} (hp : 0 < p) : ∀ (x y : Bs), (∀ c ∈ x, isMk c = true) → (∀ c ∈ y, isMk c = true) → (0 < prL p 0 x y ↔ y = oppL x)
  | [], [], _, _ => by simp [prL, oppL]
  | [], _ :: _, _, _ => by simp [prL, oppL]
  | _ :: _, [], _, _ => by simp [prL, oppL]
  | a :: x, b :: y, hx, hy => by
    have ih := pr_each hp x y (fun c h => hx c (List.mem_cons_of_mem _ h)) (fun c h => hy c (List.mem_cons_of_mem _ h))
    have ha := hx a (List.mem_cons_self ..)
    have hb := hy b (List.mem_cons_self ..)
    simp only [isMk, Bool.or_eq_true, beq_iff_eq] at ha hb
    simp only [prL, oppL, List.map_cons, List.cons.injEq] at ih ⊢
    by_cases h : a = b
    · rw [if_pos h]
      subst h
      rcases ha with rfl | rfl <;> simp [oppC]
    · rw [if_neg h, Nat.mul_pos_iff_of_pos_left hp, ih]
      have e : b = oppC a := by
        rcases ha with rfl | rfl <;> rcases hb with rfl | rfl <;> simp_all [oppC]
      simp only [e, true_and]
theorem can_none {q : Nat} {x y : Bs} (hq : 1 ≤ q) : canN 0 q x y = (y == x) := by
  rw [can_pr (by omega), Bool.eq_iff_iff, decide_eq_true_eq, beq_iff_eq, pr_none hq]
  exact eq_comm
theorem can_each {p : Nat} {x y : Bs} (hp : 1 ≤ p) (hx : ∀ c ∈ x, isMk c = true) (hy : ∀ c ∈ y, isMk c = true) : canN p 0 x y = (y == oppL x) := by
  rw [can_pr (by omega), Bool.eq_iff_iff, decide_eq_true_eq, beq_iff_eq, pr_each hp x y hx hy]
theorem can_some {p q : Nat} {x y : Bs} (hp : 1 ≤ p) (hq : 1 ≤ q) : canN p q x y = decide (x.length = y.length) := by
  rw [can_pr (by omega)]
  exact decide_eq_decide.2 (pr_pos hp hq x y)
theorem fr_zero {p q : Nat} {x y : Bs} (h1 : 1 ≤ p + q) (h : canN p q x y = false) : frN p q x y = (0, 1) := by
  unfold canN at h
  have h2 : ptN p q x y = 0 := by simpa using h
  unfold frN
  rw [h2, cut_zero (allN_pos h1)]
/-- What can come has as many marks. -/
theorem can_len {p q : Nat} {x y : Bs} (h : canN p q x y = true) : x.length = y.length := by
  by_cases e : x.length = y.length
  · exact e
  · have := ptN_ne (p := p) (q := q) e
    unfold canN at h
    simp [this] at h
/-- All different marks that come of one take no more than all parts. -/
theorem sum_pt {p q : Nat} (h1 : 1 ≤ p + q) {x : Bs} (hx5 : x.length ≤ 5) (hx : ∀ c ∈ x, isMk c = true) {ts : List Bs} (ht : ∀ t ∈ ts, ∀ c ∈ t, isMk c = true) (hn : ts.Nodup) : (ts.map (ptN p q x)).sum ≤ allN p q := by
  have hd : ∀ c, isMk c = true → isD c := fun c h => by
    simp only [isMk, Bool.or_eq_true, beq_iff_eq] at h
    exact h
  have h := sum_all p q x ts (fun c hc => hd c (hx c hc)) (fun t ht' c hc => hd c (ht t ht' c hc)) hn
  have e : (ts.map (ptN p q x)).sum = (ts.map (prL p q x)).sum * (p + q) ^ (5 - x.length) := by
    clear h hn ht
    induction ts with
    | nil => simp
    | cons t ts ih =>
      simp only [List.map_cons, List.sum_cons, ih, Nat.add_mul]
      rfl
  rw [e, ← allN_split hx5]
  exact Nat.mul_le_mul_right _ h
end Go.Proofs.Ytomhjfjfmjacfaa
