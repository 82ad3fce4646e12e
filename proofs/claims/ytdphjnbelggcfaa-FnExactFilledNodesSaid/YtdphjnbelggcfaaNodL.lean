/-
  Plain facts on nodes of the tree of marks: the node of a text and the text of a node undo each other, the way between two nodes, Tables counted and ranked. No program. Used by the claims on chapter 9.
-/
import Derived.Test.YtdphjnbelggcfaaTabL
namespace Go.Proofs.Ytdphjnbelggcfaa

/-- The bit of a mark. -/
def bit (c : UInt8) : Nat := if c = 45 then 1 else 0
theorem snoc_ind {P : Bs → Prop} (h0 : P []) (h1 : ∀ l c, P l → P (l ++ [c])) (l : Bs) : P l := by
  have : ∀ n, ∀ l : Bs, l.length = n → P l := by
    intro n
    induction n with
    | zero => intro l h; rw [List.length_eq_zero_iff.1 h]; exact h0
    | succ n ih =>
      intro l h
      have hne : l ≠ [] := fun e => by rw [e] at h; cases h
      rw [← List.dropLast_concat_getLast hne]
      exact h1 _ _ (ih _ (by rw [List.length_dropLast]; omega))
  exact this _ l rfl
def ndF (n : Nat) (l : Bs) : Nat := l.foldl (fun n c => 2 * n + bit c) n
/-- The node of a text. -/
def nd (l : Bs) : Nat := ndF 1 l
def lastMk (n : Nat) : UInt8 := if n % 2 = 0 then 46 else 45
/-- The text of a node. -/
def txN (n : Nat) : Bs := if _h : n ≤ 1 then [] else txN (n / 2) ++ [lastMk n]
  termination_by n
  decreasing_by omega

theorem bit_le (c : UInt8) : bit c ≤ 1 := by unfold bit; split <;> omega
theorem ndF_snoc (n : Nat) (l : Bs) (c : UInt8) : ndF n (l ++ [c]) = 2 * ndF n l + bit c := by simp [ndF, List.foldl_append]
theorem nd_snoc (l : Bs) (c : UInt8) : nd (l ++ [c]) = 2 * nd l + bit c := ndF_snoc 1 l c
theorem nd_nil : nd [] = 1 := rfl
theorem nd_pos (l : Bs) : 2 ^ l.length ≤ nd l ∧ nd l < 2 ^ (l.length + 1) := by
  induction l using snoc_ind with
  | h0 => simp [nd, ndF]
  | h1 l c ih =>
    rw [nd_snoc, List.length_append]
    have := bit_le c
    simp only [List.length_cons, List.length_nil, Nat.zero_add, Nat.pow_succ] at ih ⊢
    omega
theorem nd_one (l : Bs) : 1 ≤ nd l := Nat.le_trans (Nat.one_le_two_pow) (nd_pos l).1
theorem pow5 {k : Nat} (h : k ≤ 5) : 2 ^ k ≤ 32 := Nat.pow_le_pow_right (n := 2) (by omega) h
theorem nd_le {l : Bs} (h : l.length ≤ 5) : nd l ≤ 63 := by
  have h1 := (nd_pos l).2
  have h2 := pow5 h
  rw [Nat.pow_succ] at h1
  omega
theorem nd_two {l : Bs} (h : 1 ≤ l.length) : 2 ≤ nd l := by
  have h1 := (nd_pos l).1
  have h2 : 2 ^ 1 ≤ 2 ^ l.length := Nat.pow_le_pow_right (by omega) h
  omega
theorem txN_one {n : Nat} (h : n ≤ 1) : txN n = [] := by unfold txN; rw [dif_pos h]
theorem txN_more {n : Nat} (h : ¬ n ≤ 1) : txN n = txN (n / 2) ++ [lastMk n] := by rw [txN, dif_neg h]
theorem txN_nd (l : Bs) (h : l.all isMk = true) : txN (nd l) = l := by
  induction l using snoc_ind with
  | h0 => exact txN_one (by simp [nd, ndF])
  | h1 l c ih =>
    rw [List.all_append, Bool.and_eq_true] at h
    have h1 := nd_one l
    have h2 := bit_le c
    rw [nd_snoc, txN_more (by omega), show (2 * nd l + bit c) / 2 = nd l by omega, ih h.1]
    congr 2
    have hc := h.2
    simp only [List.all_cons, List.all_nil, Bool.and_true, isMk, Bool.or_eq_true, beq_iff_eq] at hc
    rcases hc with rfl | rfl
    · have e : bit 46 = 0 := rfl
      unfold lastMk; rw [e, if_pos (by omega)]
    · have e : bit 45 = 1 := rfl
      unfold lastMk; rw [e, if_neg (by omega)]
theorem nd_txN (n : Nat) (h : 1 ≤ n) : nd (txN n) = n := by
  induction n using Nat.strongRecOn with
  | ind n ih =>
    by_cases h1 : n ≤ 1
    · rw [txN_one h1, nd_nil]; omega
    · rw [txN_more h1, nd_snoc, ih (n / 2) (by omega) (by omega)]
      unfold lastMk bit
      by_cases h2 : n % 2 = 0
      · rw [if_pos h2, if_neg (by decide)]; omega
      · rw [if_neg h2, if_pos rfl]; omega
theorem txN_all (n : Nat) : (txN n).all isMk = true := by
  induction n using Nat.strongRecOn with
  | ind n ih =>
    by_cases h1 : n ≤ 1
    · rw [txN_one h1]; rfl
    · rw [txN_more h1, List.all_append, ih (n / 2) (by omega)]
      unfold lastMk
      split <;> rfl
theorem txN_len (n : Nat) (k : Nat) (h : n < 2 ^ (k + 1)) : (txN n).length ≤ k := by
  by_cases h0 : n = 0
  · rw [txN_one (by omega)]; simp
  · have h1 := (nd_pos (txN n)).1
    rw [nd_txN n (by omega)] at h1
    rcases Nat.lt_or_ge k (txN n).length with h2 | h2
    · have := Nat.pow_le_pow_right (n := 2) (by omega) (show k + 1 ≤ (txN n).length by omega)
      omega
    · exact h2
theorem nd_inj {l r : Bs} (hl : l.all isMk = true) (hr : r.all isMk = true) (h : nd l = nd r) : l = r := by rw [← txN_nd l hl, h, txN_nd r hr]

/-! ### Ways -/
def wayN (a b : Nat) : Nat × Nat := if h : a = b then (a, 0) else ((wayN (min a b) (max a b / 2)).1, (wayN (min a b) (max a b / 2)).2 + 1)
  termination_by a + b
  decreasing_by all_goals omega
theorem wayN_same (a : Nat) : wayN a a = (a, 0) := by rw [wayN, dif_pos rfl]
theorem wayN_ne {a b : Nat} (h : a ≠ b) : wayN a b = ((wayN (min a b) (max a b / 2)).1, (wayN (min a b) (max a b / 2)).2 + 1) := by rw [wayN, dif_neg h]
theorem wayN_comm (a b : Nat) : wayN a b = wayN b a := by
  by_cases h : a = b
  · rw [h]
  · rw [wayN_ne h, wayN_ne (Ne.symm h), Nat.min_comm, Nat.max_comm]
theorem wayN_gt {a b : Nat} (h : b < a) : wayN a b = ((wayN (a / 2) b).1, (wayN (a / 2) b).2 + 1) := by
  rw [wayN_ne (by omega), Nat.min_eq_right (by omega), Nat.max_eq_left (by omega), wayN_comm b (a / 2)]
theorem wayN_lt {a b : Nat} (h : a < b) : wayN a b = ((wayN a (b / 2)).1, (wayN a (b / 2)).2 + 1) := by
  rw [wayN_ne (by omega), Nat.min_eq_left (by omega), Nat.max_eq_right (by omega)]
theorem wayN_le (a b : Nat) : (wayN a b).2 ≤ a + b ∧ (wayN a b).1 ≤ a + b := by
  induction h : a + b using Nat.strongRecOn generalizing a b with
  | ind n ih =>
    subst h
    by_cases h : a = b
    · subst h; rw [wayN_same]; simp
    · rw [wayN_ne h]
      have := ih _ (show min a b + max a b / 2 < a + b by omega) (min a b) (max a b / 2) rfl
      simp only
      omega

/-! ### Tables counted -/
/-- left (left - 1) .. of so many factors, 0 where they are too few. -/
def manyN : Nat → Nat → Nat
  | 0, _ => 1
  | k + 1, l => l * manyN k (l - 1)
theorem manyN_snoc (k : Nat) : ∀ l, manyN (k + 1) l = manyN k l * (l - k) := by
  induction k with
  | zero => intro l; simp [manyN]
  | succ k ih =>
    intro l
    rw [manyN, ih (l - 1)]
    conv => rhs; rw [manyN]
    rw [Nat.mul_assoc, show l - 1 - k = l - (k + 1) by omega]
theorem manyN_le (k : Nat) : ∀ l, manyN k l ≤ l ^ k := by
  induction k with
  | zero => intro l; simp [manyN]
  | succ k ih =>
    intro l
    rw [manyN, Nat.pow_succ, Nat.mul_comm]
    refine Nat.mul_le_mul (Nat.le_trans (ih (l - 1)) (Nat.pow_le_pow_left (by omega) k)) (Nat.le_refl _)
theorem manyN_62 {k l : Nat} (hk : k ≤ 10) (hl : l ≤ 62) : manyN k l ≤ 839299365868340224 := by
  refine Nat.le_trans (manyN_le k l) (Nat.le_trans (Nat.pow_le_pow_left hl k) (Nat.le_trans (Nat.pow_le_pow_right (by omega) hk) (by decide)))
theorem manyN_pos (k : Nat) : ∀ l, k ≤ l → 1 ≤ manyN k l := by
  induction k with
  | zero => intro l _; simp [manyN]
  | succ k ih =>
    intro l h
    rw [manyN]
    exact Nat.mul_pos (by omega) (ih (l - 1) (by omega))
theorem manyN_zero (k : Nat) : ∀ l, l < k → manyN k l = 0 := by
  induction k with
  | zero => intro l h; omega
  | succ k ih =>
    intro l h
    rw [manyN]
    by_cases h0 : l = 0
    · rw [h0, Nat.zero_mul]
    · rw [ih (l - 1) (by omega), Nat.mul_zero]
/-- The nodes of 1 to m marks. -/
def nodesN (m : Nat) : List Nat := (List.range (2 ^ (m + 1) - 2)).map (· + 2)
theorem nodesN_len (m : Nat) : (nodesN m).length = 2 ^ (m + 1) - 2 := by simp [nodesN]
theorem nodesN_62 {m : Nat} (h : m ≤ 5) : (nodesN m).length ≤ 62 := by
  rw [nodesN_len, Nat.pow_succ]
  have := pow5 h
  omega
end Go.Proofs.Ytdphjnbelggcfaa
