/-
  Plain lists: how many readings a text has, what they are bounded by. Used by the claims on chapter 3.
-/
import Derived.Test.YtekgmdigchobbaaTableL
namespace Go.Proofs.Ytekgmdigchobbaa
set_option linter.unusedVariables false

/-! ### Numbers of readings -/
def wsum (T : List Bs) (s : Bs) (g : Nat → Nat) : Nat := (T.map fun m => if m.isPrefixOf s = true then g m.length else 0).sum
def wayL (T : List Bs) : Bs → List Nat
  | [] => [1]
  | c :: r => wsum T (c :: r) (fun n => (wayL T r).getD (n - 1) 0) :: wayL T r
def ways (T : List Bs) (s : Bs) : Nat := (wayL T s).getD 0 0

theorem wsum_congr {T : List Bs} {s : Bs} {g h : Nat → Nat} (e : ∀ m ∈ T, m.isPrefixOf s = true → g m.length = h m.length) : wsum T s g = wsum T s h := by
  unfold wsum
  congr 1
  refine List.map_congr_left fun m hm => ?_
  by_cases hp : m.isPrefixOf s = true
  · rw [if_pos hp, if_pos hp, e m hm hp]
  · rw [if_neg hp, if_neg hp]
theorem wsum_le {T : List Bs} {s : Bs} {g h : Nat → Nat} (e : ∀ m ∈ T, m.isPrefixOf s = true → g m.length ≤ h m.length) : wsum T s g ≤ wsum T s h := by
  unfold wsum
  induction T with
  | nil => simp
  | cons m r ih =>
    have h1 := ih (fun x hx => e x (by simp [hx]))
    simp only [List.map_cons, List.sum_cons]
    have h2 : (if m.isPrefixOf s = true then g m.length else 0) ≤ (if m.isPrefixOf s = true then h m.length else 0) := by
      by_cases hp : m.isPrefixOf s = true
      · rw [if_pos hp, if_pos hp]; exact e m (by simp) hp
      · rw [if_neg hp, if_neg hp]; exact Nat.le_refl 0
    omega
theorem wsum_nil (s : Bs) (g : Nat → Nat) : wsum [] s g = 0 := rfl
theorem wsum_snoc (T : List Bs) (m s : Bs) (g : Nat → Nat) : wsum (T ++ [m]) s g = wsum T s g + (if m.isPrefixOf s = true then g m.length else 0) := by simp [wsum]
theorem wsum_app (T U : List Bs) (s : Bs) (g : Nat → Nat) : wsum (T ++ U) s g = wsum T s g + wsum U s g := by simp [wsum]
theorem wsum_take_le (T : List Bs) (k : Nat) (s : Bs) (g : Nat → Nat) : wsum (T.take k) s g ≤ wsum T s g := by
  have h1 := wsum_app (T.take k) (T.drop k) s g
  rw [List.take_append_drop] at h1
  omega
theorem pre_le {m s : Bs} (h : m.isPrefixOf s = true) : m.length ≤ s.length := (List.isPrefixOf_iff_prefix.1 h).length_le
theorem pre_take {m s : Bs} (h : m.isPrefixOf s = true) : m = s.take m.length := List.prefix_iff_eq_take.1 (List.isPrefixOf_iff_prefix.1 h)

theorem wayL_len (T : List Bs) : ∀ s : Bs, (wayL T s).length = s.length + 1
  | [] => rfl
  | c :: r => by simp [wayL, wayL_len T r]
theorem wayL_at (T : List Bs) : ∀ (s : Bs) (j : Nat), j ≤ s.length → (wayL T s).getD j 0 = ways T (s.drop j)
  | s, 0, _ => by simp [ways]
  | [], j + 1, h => by simp at h
  | c :: r, j + 1, h => by
    rw [wayL, List.getD_cons_succ, List.drop_succ_cons]
    exact wayL_at T r j (by simpa using h)
theorem ways_nil (T : List Bs) : ways T [] = 1 := rfl
theorem ways_step {T : List Bs} (hT : ∀ m ∈ T, m ≠ []) {s : Bs} (hs : s ≠ []) : ways T s = wsum T s (fun n => ways T (s.drop n)) := by
  cases s with
  | nil => exact absurd rfl hs
  | cons c r =>
    unfold ways
    rw [wayL, List.getD_cons_zero]
    refine wsum_congr fun m hm hp => ?_
    have h1 := pre_le hp
    have h2 : 1 ≤ m.length := by have := List.length_pos_iff.2 (hT m hm); omega
    obtain ⟨n, hn⟩ : ∃ n, m.length = n + 1 := ⟨m.length - 1, by omega⟩
    rw [hn] at h1 ⊢
    rw [List.drop_succ_cons, Nat.add_sub_cancel]
    exact wayL_at T r n (by simpa using h1)

/-- Distinct lengths 1..n weigh less than 2^N together. -/
theorem sum_pow (N : Nat) : ∀ (n : Nat) (L : List Nat), n ≤ N → L.Nodup → (∀ l ∈ L, 1 ≤ l ∧ l ≤ n) → (L.map fun l => 2 ^ (N - l)).sum + 2 ^ (N - n) ≤ 2 ^ N
  | 0, L, _, _, h => by
    have : L = [] := by
      cases L with
      | nil => rfl
      | cons x r => have := h x (by simp); omega
    subst this; simp
  | n + 1, L, hn, hd, h => by
    have hp : 2 ^ (N - n) = 2 * 2 ^ (N - (n + 1)) := by
      have : N - n = (N - (n + 1)) + 1 := by omega
      rw [this, Nat.pow_succ]; omega
    by_cases hm : n + 1 ∈ L
    · have hperm := List.perm_cons_erase hm
      have hs : (L.map fun l => 2 ^ (N - l)).sum = 2 ^ (N - (n + 1)) + ((L.erase (n + 1)).map fun l => 2 ^ (N - l)).sum := by
        rw [(hperm.map _).sum_nat]; simp
      have ih := sum_pow N n (L.erase (n + 1)) (by omega) (hd.erase _) (fun l hl => by
        have h1 := h l (List.mem_of_mem_erase hl)
        have h2 : l ≠ n + 1 := fun e => by subst e; exact (List.Nodup.not_mem_erase hd) hl
        omega)
      omega
    · have ih := sum_pow N n L (by omega) hd (fun l hl => by
        have h1 := h l hl
        have h2 : l ≠ n + 1 := fun e => by subst e; exact hm hl
        omega)
      omega
theorem wsum_filter (T : List Bs) (s : Bs) (g : Nat → Nat) : wsum T s g = (((T.filter fun m => m.isPrefixOf s).map List.length).map g).sum := by
  unfold wsum
  induction T with
  | nil => rfl
  | cons m r ih =>
    by_cases hp : m.isPrefixOf s = true
    · rw [List.filter_cons_of_pos (p := fun m : Bs => m.isPrefixOf s) hp, List.map_cons, List.sum_cons, List.map_cons, List.map_cons, List.sum_cons, if_pos hp, ih]
    · rw [List.filter_cons_of_neg (p := fun m : Bs => m.isPrefixOf s) hp, List.map_cons, List.sum_cons, if_neg hp, ih, Nat.zero_add]
theorem lens_nodup {T : List Bs} (h : T.Nodup) (s : Bs) : ((T.filter fun m => m.isPrefixOf s).map List.length).Nodup := by
  have h2 : ((T.filter fun m => m.isPrefixOf s)).Pairwise (· ≠ ·) := List.Pairwise.filter _ h
  show List.Pairwise _ _
  rw [List.pairwise_map]
  refine List.Pairwise.imp_of_mem ?_ h2
  intro a b ha hb hne e
  have pa := pre_take (List.mem_filter.1 ha).2
  have pb := pre_take (List.mem_filter.1 hb).2
  rw [e] at pa
  exact hne (pa.trans pb.symm)
theorem ways_le {T : List Bs} (hn : T.Nodup) (hT : ∀ m ∈ T, m ≠ []) : ∀ (n : Nat) (s : Bs), s.length ≤ n → ways T s ≤ 2 ^ s.length
  | 0, s, h => by
    have : s = [] := List.length_eq_zero_iff.1 (by omega)
    subst this; simp [ways_nil]
  | n + 1, s, h => by
    by_cases hs : s = []
    · subst hs; simp [ways_nil]
    · rw [ways_step hT hs]
      have h1 : wsum T s (fun l => ways T (s.drop l)) ≤ wsum T s (fun l => 2 ^ (s.length - l)) := wsum_le fun m hm hp => by
        have h3 : 1 ≤ m.length := by have := List.length_pos_iff.2 (hT m hm); omega
        have h4 : 1 ≤ s.length := by have := List.length_pos_iff.2 hs; omega
        have := ways_le hn hT n (s.drop m.length) (by rw [List.length_drop]; omega)
        rwa [List.length_drop] at this
      rw [wsum_filter T s fun l => 2 ^ (s.length - l)] at h1
      rw [wsum_filter]
      have h2 := sum_pow s.length s.length _ (Nat.le_refl _) (lens_nodup hn s) (fun l hl => by
        obtain ⟨m, hm, rfl⟩ := List.mem_map.1 hl
        obtain ⟨hm1, hm2⟩ := List.mem_filter.1 hm
        exact ⟨by have := List.length_pos_iff.2 (hT m hm1); omega, pre_le hm2⟩)
      rw [wsum_filter T s fun l => ways T (s.drop l)] at h1
      rw [Nat.sub_self, Nat.pow_zero] at h2
      omega

/-! ### The same, of texts in memory -/
def wayAt (xs : List ByteArray) (s : ByteArray) (j : Nat) : Nat := ways (xs.map bl) ((bl s).drop j)
def stands (s m : ByteArray) (j : Nat) : Bool := (bl m).isPrefixOf ((bl s).drop j)
def wayPart (xs : List ByteArray) (s : ByteArray) (j k : Nat) : Nat := wsum ((xs.map bl).take k) ((bl s).drop j) (fun n => wayAt xs s (j + n))
theorem wayAt_end (xs : List ByteArray) (s : ByteArray) : wayAt xs s s.size = 1 := by
  unfold wayAt
  rw [List.drop_of_length_le (by rw [bl_len]; exact Nat.le_refl _)]; rfl
theorem wayPart_zero (xs : List ByteArray) (s : ByteArray) (j : Nat) : wayPart xs s j 0 = 0 := by simp [wayPart, wsum]
theorem wayPart_succ (xs : List ByteArray) (s : ByteArray) (j k : Nat) (x : ByteArray) (h : xs[k]? = some x) : wayPart xs s j (k + 1) = wayPart xs s j k + (if stands s x j = true then wayAt xs s (j + x.size) else 0) := by
  unfold wayPart stands
  rw [List.take_add_one, List.getElem?_map, h, Option.map_some, Option.toList_some, wsum_snoc, bl_len]
theorem ne_of_table {xs : List ByteArray} (h : tableB xs = true) : ∀ m ∈ xs.map bl, m ≠ [] := fun m hm e => by
  subst e
  obtain ⟨x, hx, e2⟩ := List.mem_map.1 hm
  have := ((tableB_iff xs).1 h).2.1 x hx
  rw [e2] at this
  simp [marksL] at this
theorem wayPart_all {xs : List ByteArray} (h : tableB xs = true) (s : ByteArray) (j : Nat) (hj : j < s.size) : wayPart xs s j xs.length = wayAt xs s j := by
  unfold wayPart wayAt
  have hne : (bl s).drop j ≠ [] := fun e => by
    have := congrArg List.length e
    rw [List.length_drop, bl_len] at this
    simp at this; omega
  rw [List.take_of_length_le (by simp), ways_step (ne_of_table h) hne]
  refine wsum_congr fun m hm hp => ?_
  rw [List.drop_drop]
theorem wayAt_le {xs : List ByteArray} (h : tableB xs = true) (s : ByteArray) (hs : s.size ≤ 40) (j : Nat) : wayAt xs s j ≤ 1099511627776 := by
  have h1 := ways_le ((nodup_bl xs).2 ((tableB_iff xs).1 h).2.2) (ne_of_table h) _ ((bl s).drop j) (Nat.le_refl _)
  have h2 : ((bl s).drop j).length ≤ 40 := by rw [List.length_drop, bl_len]; omega
  exact Nat.le_trans h1 (Nat.le_trans (Nat.pow_le_pow_right (by omega) h2) (by decide))
theorem wayPart_le {xs : List ByteArray} (h : tableB xs = true) (s : ByteArray) (hs : s.size ≤ 40) (j k : Nat) (hj : j < s.size) : wayPart xs s j k ≤ 1099511627776 := by
  have h1 := wayAt_le h s hs j
  rw [← wayPart_all h s j hj] at h1
  refine Nat.le_trans ?_ h1
  unfold wayPart
  rw [List.take_of_length_le (l := xs.map bl) (i := xs.length) (by simp)]
  exact wsum_take_le _ _ _ _
theorem stands_le {s m : ByteArray} {j : Nat} (hj : j ≤ s.size) (h : stands s m j = true) : j + m.size ≤ s.size := by
  have := pre_le h
  rw [List.length_drop, bl_len, bl_len] at this
  omega

/-! ### Bare texts -/
def bareT (s : ByteArray) : Bool := decide (s.size ≤ 40) && (bl s).all isMk
def goodB (xs : List ByteArray) (s : ByteArray) : Bool := tableB xs && bareT s
end Go.Proofs.Ytekgmdigchobbaa
