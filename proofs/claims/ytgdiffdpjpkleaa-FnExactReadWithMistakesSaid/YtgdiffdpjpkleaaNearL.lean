/-
  Plain facts on what has the least number: lists sorted by a number, the least one, pairs in their order, the nearest of a list of texts. No program. Used by the claims on chapter 6.
-/
import Derived.Test.YtgdiffdpjpkleaaDistL
import Derived.Test.YtgdiffdpjpkleaaTabT
namespace Go.Proofs.Ytgdiffdpjpkleaa

def byOn {α : Type} (g : α → Nat) (d : Nat) (L : List α) : List α := L.filter fun p => g p == d
theorem byOn_snoc {α : Type} (g : α → Nat) (d : Nat) (L : List α) (p : α) : byOn g d (L ++ [p]) = byOn g d L ++ (if g p = d then [p] else []) := by
  unfold byOn
  rw [List.filter_append]
  by_cases h : g p = d <;> simp [h]
theorem byOn_snoc_same {α : Type} {g : α → Nat} {d : Nat} {L : List α} {p : α} (h : g p = d) : byOn g d (L ++ [p]) = byOn g d L ++ [p] := by rw [byOn_snoc, if_pos h]
theorem byOn_snoc_other {α : Type} {g : α → Nat} {d : Nat} {L : List α} {p : α} (h : g p ≠ d) : byOn g d (L ++ [p]) = byOn g d L := by rw [byOn_snoc, if_neg h, List.append_nil]
theorem byOn_le {α : Type} (g : α → Nat) (d : Nat) (L : List α) : (byOn g d L).length ≤ L.length := List.length_filter_le _ _
theorem mem_byOn {α : Type} {g : α → Nat} {d : Nat} {L : List α} {p : α} : p ∈ byOn g d L ↔ p ∈ L ∧ g p = d := by simp [byOn]

def minOn {α : Type} (g : α → Nat) (L : List α) : Nat := L.foldl (fun m p => min m (g p)) 99
theorem minOn_snoc {α : Type} (g : α → Nat) (L : List α) (p : α) : minOn g (L ++ [p]) = min (minOn g L) (g p) := by simp [minOn, List.foldl_append]
theorem minOn_nil {α : Type} (g : α → Nat) : minOn g [] = 99 := rfl
theorem minFold_le {α : Type} (g : α → Nat) : ∀ (L : List α) (m : Nat), L.foldl (fun m p => min m (g p)) m ≤ m ∧ ∀ p ∈ L, L.foldl (fun m p => min m (g p)) m ≤ g p
  | [], m => ⟨Nat.le_refl _, fun p hp => by cases hp⟩
  | x :: r, m => by
    obtain ⟨h1, h2⟩ := minFold_le g r (min m (g x))
    refine ⟨Nat.le_trans h1 (Nat.min_le_left _ _), fun p hp => ?_⟩
    rcases List.mem_cons.1 hp with rfl | hp
    · exact Nat.le_trans h1 (Nat.min_le_right _ _)
    · exact h2 p hp
theorem minOn_le {α : Type} {g : α → Nat} {L : List α} {p : α} (h : p ∈ L) : minOn g L ≤ g p := (minFold_le g L 99).2 p h
theorem minFold_at {α : Type} (g : α → Nat) : ∀ (L : List α) (m : Nat), L.foldl (fun m p => min m (g p)) m = m ∨ ∃ p ∈ L, g p = L.foldl (fun m p => min m (g p)) m
  | [], m => .inl rfl
  | x :: r, m => by
    rcases minFold_at g r (min m (g x)) with h | ⟨p, hp, h⟩
    · by_cases hx : g x ≤ m
      · exact .inr ⟨x, by simp, by show g x = r.foldl _ (min m (g x)); rw [h]; omega⟩
      · exact .inl (by show r.foldl _ (min m (g x)) = m; rw [h]; omega)
    · exact .inr ⟨p, by simp [hp], h⟩
theorem minOn_at {α : Type} {g : α → Nat} {L : List α} (h0 : L ≠ []) (h : ∀ p ∈ L, g p ≤ 5) : ∃ p ∈ L, g p = minOn g L := by
  rcases minFold_at g L 99 with e | e
  · obtain ⟨x, r, rfl⟩ := List.exists_cons_of_ne_nil h0
    have h1 := minOn_le (g := g) (L := x :: r) (p := x) (by simp)
    have h2 := h x (by simp)
    unfold minOn at h1
    omega
  · exact e
theorem minOn_le5 {α : Type} {g : α → Nat} {L : List α} (h0 : L ≠ []) (h : ∀ p ∈ L, g p ≤ 5) : minOn g L ≤ 5 := by
  obtain ⟨p, hp, e⟩ := minOn_at h0 h
  have := h p hp
  omega
theorem minOn_mono {α β : Type} {g : α → Nat} {k : β → Nat} {L : List α} {M : List β} (h0 : M ≠ []) (h5 : ∀ q ∈ M, k q ≤ 5) (h : ∀ q ∈ M, ∃ p ∈ L, g p = k q) : minOn g L ≤ minOn k M := by
  obtain ⟨q, hq, e⟩ := minOn_at h0 h5
  obtain ⟨p, hp, e2⟩ := h q hq
  have := minOn_le (g := g) hp
  omega
theorem byOn_min {α : Type} {g : α → Nat} {L : List α} (h0 : L ≠ []) (h : ∀ p ∈ L, g p ≤ 5) : byOn g (minOn g L) L ≠ [] := by
  obtain ⟨p, hp, e⟩ := minOn_at h0 h
  exact List.ne_nil_of_mem (mem_byOn.2 ⟨hp, e⟩)
theorem byOn_below {α : Type} {g : α → Nat} {L : List α} {d : Nat} (h : d < minOn g L) : byOn g d L = [] := by
  refine List.eq_nil_iff_forall_not_mem.2 fun p hp => ?_
  obtain ⟨h1, h2⟩ := mem_byOn.1 hp
  have := minOn_le (g := g) h1
  omega
/-- The least ones, as the model keeps them. -/
def nearOn {α : Type} (g : α → Nat) (L : List α) : List α := byOn g (minOn g L) L
theorem nearOn_less {α : Type} {g : α → Nat} {L : List α} {p : α} (h : g p < minOn g L) : nearOn g (L ++ [p]) = [p] ∧ minOn g (L ++ [p]) = g p := by
  have e : minOn g (L ++ [p]) = g p := by rw [minOn_snoc]; omega
  refine ⟨?_, e⟩
  unfold nearOn
  rw [e, byOn_snoc_same rfl, byOn_below h, List.nil_append]
theorem nearOn_same {α : Type} {g : α → Nat} {L : List α} {p : α} (h : g p = minOn g L) : nearOn g (L ++ [p]) = nearOn g L ++ [p] ∧ minOn g (L ++ [p]) = minOn g L := by
  have e : minOn g (L ++ [p]) = minOn g L := by rw [minOn_snoc]; omega
  refine ⟨?_, e⟩
  unfold nearOn
  rw [e, byOn_snoc_same h]
theorem nearOn_more {α : Type} {g : α → Nat} {L : List α} {p : α} (h : minOn g L < g p) : nearOn g (L ++ [p]) = nearOn g L ∧ minOn g (L ++ [p]) = minOn g L := by
  have e : minOn g (L ++ [p]) = minOn g L := by rw [minOn_snoc]; omega
  refine ⟨?_, e⟩
  unfold nearOn
  rw [e, byOn_snoc_other (by omega)]
theorem nearOn_le {α : Type} (g : α → Nat) (L : List α) : (nearOn g L).length ≤ L.length := byOn_le _ _ _

/-! ### Texts of a list -/
def atB (xs : List ByteArray) (i : Nat) : ByteArray := xs.getD i ⟨#[]⟩
theorem atB_eq {xs : List ByteArray} {i : Nat} {x : ByteArray} (h : xs[i]? = some x) : atB xs i = x := by
  unfold atB
  rw [List.getD_eq_getElem?_getD, h]; rfl
theorem atB_mem {xs : List ByteArray} {i : Nat} (h : i < xs.length) : atB xs i ∈ xs := by
  rw [atB_eq (List.getElem?_eq_getElem h)]; exact List.getElem_mem h
/-- How far a letter is from some marks. -/
def farB (xs : List ByteArray) (s : ByteArray) (i : Nat) : Nat := dist (bl s) (bl (atB xs i))
/-- How far two letters are from one another. -/
def farP (xs : List ByteArray) (p : Nat × Nat) : Nat := farB xs (atB xs p.1) p.2
theorem farP_comm (xs : List ByteArray) (i j : Nat) : farP xs (i, j) = farP xs (j, i) := dist_comm _ _

/-! ### Pairs in their order -/
def rowQ (i k : Nat) : List (Nat × Nat) := ((List.range k).filter fun j => decide (i < j)).map fun j => (i, j)
def pairsQ (n i k : Nat) : List (Nat × Nat) := ((List.range i).flatMap fun a => rowQ a n) ++ rowQ i k
theorem rowQ_small {i k : Nat} (h : k ≤ i + 1) : rowQ i k = [] := by
  unfold rowQ
  rw [List.filter_eq_nil_iff.2 (fun j hj => by have := List.mem_range.1 hj; simp; omega)]
  rfl
theorem pairsQ_start (n i : Nat) : pairsQ n i (i + 1) = pairsQ n i 0 := by
  unfold pairsQ; rw [rowQ_small (Nat.le_refl _), rowQ_small (Nat.zero_le _)]
theorem pairsQ_succ {n i k : Nat} (h : i < k) : pairsQ n i (k + 1) = pairsQ n i k ++ [(i, k)] := by
  unfold pairsQ rowQ
  rw [List.range_succ, List.filter_append, List.map_append, List.append_assoc]
  simp [h]
theorem pairsQ_row (n i : Nat) : pairsQ n i n = pairsQ n (i + 1) 0 := by
  unfold pairsQ
  rw [List.range_succ, List.flatMap_append]
  simp [rowQ]
theorem mem_pairsQ {n i k : Nat} {p : Nat × Nat} : p ∈ pairsQ n i k ↔ (p.1 < i ∧ p.1 < p.2 ∧ p.2 < n) ∨ (p.1 = i ∧ i < p.2 ∧ p.2 < k) := by
  obtain ⟨a, b⟩ := p
  simp only [pairsQ, rowQ, List.mem_append, List.mem_flatMap, List.mem_range, List.mem_map, List.mem_filter, decide_eq_true_eq, Prod.mk.injEq]
  constructor
  · rintro (⟨x, hx, y, ⟨hy, hxy⟩, rfl, rfl⟩ | ⟨y, ⟨hy, hxy⟩, rfl, rfl⟩)
    · exact .inl ⟨hx, hxy, hy⟩
    · exact .inr ⟨rfl, hxy, hy⟩
  · rintro (⟨h1, h2, h3⟩ | ⟨rfl, h2, h3⟩)
    · exact .inl ⟨a, h1, b, ⟨h3, h2⟩, rfl, rfl⟩
    · exact .inr ⟨b, ⟨h3, h2⟩, rfl, rfl⟩
theorem pairsQ_le (n i k : Nat) : (pairsQ n i k).length ≤ i * n + k := by
  have h1 : ∀ i, ((List.range i).flatMap fun a => rowQ a n).length ≤ i * n := by
    intro i
    induction i with
    | zero => simp
    | succ i ih =>
      rw [List.range_succ, List.flatMap_append, List.length_append, Nat.add_mul]
      have : (rowQ i n).length ≤ n := by
        unfold rowQ; rw [List.length_map]
        have := List.length_filter_le (fun j => decide (i < j)) (List.range n)
        rwa [List.length_range] at this
      simp only [List.flatMap_cons, List.flatMap_nil, List.append_nil]
      omega
  have h2 : (rowQ i k).length ≤ k := by
    unfold rowQ; rw [List.length_map]
    have := List.length_filter_le (fun j => decide (i < j)) (List.range k)
    rwa [List.length_range] at this
  unfold pairsQ
  rw [List.length_append]
  have := h1 i
  omega
/-- All pairs of n letters. -/
def allQ (n : Nat) : List (Nat × Nat) := pairsQ n n 0
theorem mem_allQ {n : Nat} {p : Nat × Nat} : p ∈ allQ n ↔ p.1 < p.2 ∧ p.2 < n := by
  unfold allQ
  rw [mem_pairsQ]
  omega
theorem allQ_nil {n : Nat} (h : n < 2) : allQ n = [] := List.eq_nil_iff_forall_not_mem.2 fun p hp => by have := mem_allQ.1 hp; omega
theorem allQ_ne {n : Nat} (h : 2 ≤ n) : allQ n ≠ [] := List.ne_nil_of_mem (a := (0, 1)) (mem_allQ.2 ⟨by omega, by show 1 < n; omega⟩)

/-- Pairs the other way round, as the model meets them. -/
def backQ : Nat → Nat → List (Nat × Nat)
  | 0, _ => []
  | i + 1, k => backQ i i ++ (List.range k).map fun j => (i, j)
/-- Before the k-th letter ahead of letter i. -/
def lowQ (i k : Nat) : List (Nat × Nat) := ((List.range i).flatMap fun a => (List.range a).map fun j => (a, j)) ++ (List.range k).map fun j => (i, j)
theorem lowQ_succ (i k : Nat) : lowQ i (k + 1) = lowQ i k ++ [(i, k)] := by
  unfold lowQ
  rw [List.range_succ, List.map_append, List.append_assoc]; rfl
theorem lowQ_row (i : Nat) : lowQ i i = lowQ (i + 1) 0 := by
  unfold lowQ
  rw [List.range_succ, List.flatMap_append]
  simp
theorem lowQ_zero : lowQ 0 0 = [] := rfl
theorem mem_lowQ {i k : Nat} {p : Nat × Nat} : p ∈ lowQ i k ↔ (p.1 < i ∧ p.2 < p.1) ∨ (p.1 = i ∧ p.2 < k) := by
  obtain ⟨a, b⟩ := p
  simp only [lowQ, List.mem_append, List.mem_flatMap, List.mem_range, List.mem_map, Prod.mk.injEq]
  constructor
  · rintro (⟨x, hx, y, hy, rfl, rfl⟩ | ⟨y, hy, rfl, rfl⟩)
    · exact .inl ⟨hx, hy⟩
    · exact .inr ⟨rfl, hy⟩
  · rintro (⟨h1, h2⟩ | ⟨rfl, h2⟩)
    · exact .inl ⟨a, h1, b, h2, rfl, rfl⟩
    · exact .inr ⟨b, h2, rfl, rfl⟩
theorem lowQ_nil {i k : Nat} (h : (lowQ i k) = []) : k = 0 ∨ i = 0 := by
  cases k with
  | zero => exact .inl rfl
  | succ k =>
    have : (i, 0) ∈ lowQ i (k + 1) := mem_lowQ.2 (.inr ⟨rfl, by simp⟩)
    rw [h] at this; cases this

/-! ### Marks -/
theorem marksL_size {x : ByteArray} (h : marksL (bl x) = true) : 1 ≤ x.size ∧ x.size ≤ 5 := by
  simp only [marksL, Bool.and_eq_true, decide_eq_true_eq, bl_len] at h
  exact h.1
end Go.Proofs.Ytgdiffdpjpkleaa
