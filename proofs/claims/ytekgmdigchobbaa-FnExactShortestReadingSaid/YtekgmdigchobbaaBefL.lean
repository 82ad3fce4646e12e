/-
  Plain: readings of what is before a place; the same, pushed ahead from place to place. Used by the claims on chapter 3.
-/
import Derived.Test.YtekgmdigchobbaaWayR
import Derived.Test.YtekgmdigchobbaaWayS
namespace Go.Proofs.Ytekgmdigchobbaa
set_option linter.unusedVariables false

def befAt (xs : List ByteArray) (s : ByteArray) (j : Nat) : Nat := wayE (xs.map bl) ((bl s).take j)
def endsAt (s m : ByteArray) (j : Nat) : Bool := (bl m).isSuffixOf ((bl s).take j)
def befPart (xs : List ByteArray) (s : ByteArray) (j k : Nat) : Nat := ssum ((xs.map bl).take k) ((bl s).take j) (fun n => befAt xs s (j - n))
theorem ssum_snoc (T : List Bs) (m s : Bs) (g : Nat → Nat) : ssum (T ++ [m]) s g = ssum T s g + (if m.isSuffixOf s = true then g m.length else 0) := by simp [ssum]
theorem ssum_app (T U : List Bs) (s : Bs) (g : Nat → Nat) : ssum (T ++ U) s g = ssum T s g + ssum U s g := by simp [ssum]
theorem befAt_zero (xs : List ByteArray) (s : ByteArray) : befAt xs s 0 = 1 := rfl
theorem befPart_zero (xs : List ByteArray) (s : ByteArray) (j : Nat) : befPart xs s j 0 = 0 := by simp [befPart, ssum]
theorem befPart_succ (xs : List ByteArray) (s : ByteArray) (j k : Nat) (x : ByteArray) (h : xs[k]? = some x) : befPart xs s j (k + 1) = befPart xs s j k + (if endsAt s x j = true then befAt xs s (j - x.size) else 0) := by
  unfold befPart endsAt
  rw [List.take_add_one, List.getElem?_map, h, Option.map_some, Option.toList_some, ssum_snoc, bl_len]
theorem take_ne {s : ByteArray} {j : Nat} (h0 : 0 < j) (hj : j ≤ s.size) : (bl s).take j ≠ [] := fun e => by
  have := congrArg List.length e
  rw [List.length_take, bl_len, List.length_nil] at this
  omega
theorem befAt_step {xs : List ByteArray} (h : tableB xs = true) (s : ByteArray) (j : Nat) (h0 : 0 < j) (hj : j ≤ s.size) : befAt xs s j = ssum (xs.map bl) ((bl s).take j) (fun n => befAt xs s (j - n)) := by
  unfold befAt
  rw [wayE_step (ne_of_table h) (take_ne h0 hj)]
  unfold ssum
  refine sum_map_congr fun m hm => ?_
  by_cases hp : m.isSuffixOf ((bl s).take j) = true
  · rw [if_pos hp, if_pos hp]
    have e : ((bl s).take j).length = j := by rw [List.length_take, bl_len]; omega
    rw [e]
    show wayE _ (((bl s).take j).take (j - m.length)) = wayE _ ((bl s).take (j - m.length))
    rw [List.take_take, show min (j - m.length) j = j - m.length by omega]
  · rw [if_neg hp, if_neg hp]
theorem befPart_all {xs : List ByteArray} (h : tableB xs = true) (s : ByteArray) (j : Nat) (h0 : 0 < j) (hj : j ≤ s.size) : befPart xs s j xs.length = befAt xs s j := by
  rw [befAt_step h s j h0 hj]
  unfold befPart
  rw [List.take_of_length_le (by simp)]
theorem befAt_ways {xs : List ByteArray} (h : tableB xs = true) (s : ByteArray) (j : Nat) : befAt xs s j = ways (xs.map bl) ((bl s).take j) := (ways_end (ne_of_table h) _).symm
theorem befAt_le {xs : List ByteArray} (h : tableB xs = true) (s : ByteArray) (hs : s.size ≤ 40) (j : Nat) : befAt xs s j ≤ 1099511627776 := by
  rw [befAt_ways h]
  have h1 := ways_le ((nodup_bl xs).2 ((tableB_iff xs).1 h).2.2) (ne_of_table h) _ ((bl s).take j) (Nat.le_refl _)
  have h2 : ((bl s).take j).length ≤ 40 := by rw [List.length_take, bl_len]; omega
  exact Nat.le_trans h1 (Nat.le_trans (Nat.pow_le_pow_right (by omega) h2) (by decide))
theorem befPart_le {xs : List ByteArray} (h : tableB xs = true) (s : ByteArray) (hs : s.size ≤ 40) (j k : Nat) (h0 : 0 < j) (hj : j ≤ s.size) : befPart xs s j k ≤ 1099511627776 := by
  have h1 := befAt_le h s hs j
  rw [befAt_step h s j h0 hj] at h1
  have h2 := ssum_app ((xs.map bl).take k) ((xs.map bl).drop k) ((bl s).take j) (fun n => befAt xs s (j - n))
  rw [List.take_append_drop] at h2
  unfold befPart
  omega
theorem ends_le {s m : ByteArray} {j : Nat} (h : endsAt s m j = true) : m.size ≤ j := by
  have := suf_le h
  rw [List.length_take, bl_len, bl_len] at this
  omega
theorem mid_le {xs : List ByteArray} (h : tableB xs = true) (s : ByteArray) (hs : s.size ≤ 40) (j : Nat) : befAt xs s j * wayAt xs s j ≤ 1099511627776 := by
  rw [befAt_ways h]
  have h1 := ways_parts (ne_of_table h) (bl s) j
  have h2 := wayAt_le h s hs 0
  unfold wayAt at h2 ⊢
  rw [List.drop_zero] at h2
  exact Nat.le_trans h1 h2
theorem mid_pos {xs : List ByteArray} (h : tableB xs = true) (s : ByteArray) (j : Nat) : befAt xs s j * wayAt xs s j ≤ wayAt xs s 0 := by
  rw [befAt_ways h]
  have h1 := ways_parts (ne_of_table h) (bl s) j
  unfold wayAt
  rwa [List.drop_zero]

/-! ### Pushed ahead -/
def psum (T : List Bs) (s : Bs) (A j : Nat) (g : Nat → Nat) : Nat := (T.map fun m => if m.isSuffixOf (s.take j) = true ∧ j - m.length < A then g (j - m.length) else 0).sum
def pushAt (xs : List ByteArray) (s : ByteArray) (A k j : Nat) : Nat := (if j = 0 then 1 else 0) + psum ((xs.map bl).take k) (bl s) (A + 1) j (befAt xs s) + psum ((xs.map bl).drop k) (bl s) A j (befAt xs s)
theorem psum_cons (T : List Bs) (m s : Bs) (A j : Nat) (g : Nat → Nat) : psum (m :: T) s A j g = (if m.isSuffixOf (s.take j) = true ∧ j - m.length < A then g (j - m.length) else 0) + psum T s A j g := by simp [psum]
theorem psum_snoc (T : List Bs) (m s : Bs) (A j : Nat) (g : Nat → Nat) : psum (T ++ [m]) s A j g = psum T s A j g + (if m.isSuffixOf (s.take j) = true ∧ j - m.length < A then g (j - m.length) else 0) := by simp [psum]
theorem psum_app (T U : List Bs) (s : Bs) (A j : Nat) (g : Nat → Nat) : psum (T ++ U) s A j g = psum T s A j g + psum U s A j g := by simp [psum]
theorem pushAt_all (xs : List ByteArray) (s : ByteArray) (A j : Nat) : pushAt xs s A xs.length j = pushAt xs s (A + 1) 0 j := by
  unfold pushAt
  have e1 : (xs.map bl).take xs.length = xs.map bl := List.take_of_length_le (by simp)
  have e2 : (xs.map bl).drop xs.length = [] := List.drop_of_length_le (by simp)
  rw [e1, e2, List.take_zero, List.drop_zero]
  simp [psum]
theorem pushAt_start (xs : List ByteArray) (s : ByteArray) (j : Nat) : pushAt xs s 0 0 j = if j = 0 then 1 else 0 := by
  unfold pushAt
  have e : psum (xs.map bl) (bl s) 0 j (befAt xs s) = 0 := by
    unfold psum
    have h1 : (xs.map bl).map (fun m => if m.isSuffixOf ((bl s).take j) = true ∧ j - m.length < 0 then befAt xs s (j - m.length) else 0) = (xs.map bl).map fun _ => 0 :=
      List.map_congr_left fun m _ => if_neg (fun h => by omega)
    rw [h1]; exact sum_zero _
  rw [List.take_zero, List.drop_zero, e]
  simp [psum]
theorem ends_stands {s m : ByteArray} {A j : Nat} (hj : j = A + m.size) (hs : j ≤ s.size) : endsAt s m j = stands s m A := by
  subst hj
  unfold endsAt stands
  rw [Bool.eq_iff_iff, List.isSuffixOf_iff_suffix, List.isPrefixOf_iff_prefix, List.suffix_iff_eq_drop, List.prefix_iff_eq_take]
  rw [List.length_take, bl_len, bl_len, show min (A + m.size) s.size - m.size = A by omega, List.drop_take, show A + m.size - A = m.size by omega]
theorem pushAt_succ {xs : List ByteArray} (h : tableB xs = true) (s : ByteArray) (A k j : Nat) (x : ByteArray) (hx : xs[k]? = some x) (hA : A ≤ s.size) (hj : j ≤ s.size) : pushAt xs s A (k + 1) j = pushAt xs s A k j + (if j = A + x.size ∧ stands s x A = true then befAt xs s A else 0) := by
  have hk : k < xs.length := (List.getElem?_eq_some_iff.1 hx).1
  have hx2 : (xs.map bl)[k]? = some (bl x) := by rw [List.getElem?_map, hx]; rfl
  have hd : (xs.map bl).drop k = bl x :: (xs.map bl).drop (k + 1) := by
    have hk2 : k < (xs.map bl).length := by simpa using hk
    rw [List.drop_eq_getElem_cons hk2]
    rw [List.getElem?_eq_getElem hk2] at hx2
    rw [Option.some.inj hx2]
  unfold pushAt
  rw [hd, psum_cons, List.take_add_one, hx2, Option.toList_some, psum_snoc, bl_len]
  have key : (if (bl x).isSuffixOf ((bl s).take j) = true ∧ j - x.size < A + 1 then befAt xs s (j - x.size) else 0) = (if (bl x).isSuffixOf ((bl s).take j) = true ∧ j - x.size < A then befAt xs s (j - x.size) else 0) + (if j = A + x.size ∧ stands s x A = true then befAt xs s A else 0) := by
    by_cases hs : (bl x).isSuffixOf ((bl s).take j) = true
    · have hle : x.size ≤ j := ends_le (s := s) hs
      by_cases h1 : j - x.size < A
      · rw [if_pos ⟨hs, by omega⟩, if_pos ⟨hs, h1⟩, if_neg (fun hh => by omega), Nat.add_zero]
      · by_cases h2 : j = A + x.size
        · have h3 := ends_stands h2 hj
          rw [if_pos ⟨hs, by omega⟩, if_neg (fun hh => h1 hh.2), if_pos ⟨h2, by rw [← h3]; exact hs⟩, Nat.zero_add, show j - x.size = A by omega]
        · rw [if_neg (fun hh => by omega), if_neg (fun hh => h1 hh.2), if_neg (fun hh => h2 hh.1)]
    · rw [if_neg (fun hh => hs hh.1), if_neg (fun hh => hs hh.1), if_neg (fun hh => hs (by
        have h3 := ends_stands hh.1 hj
        rw [hh.2] at h3; exact h3))]
  rw [key]
  omega
theorem psum_full {xs : List ByteArray} (h : tableB xs = true) (s : ByteArray) (A j : Nat) (hA : j ≤ A) : ∀ T : List Bs, (∀ m ∈ T, m ≠ []) → psum T (bl s) A j (befAt xs s) = ssum T ((bl s).take j) (fun n => befAt xs s (j - n))
  | [], _ => rfl
  | m :: T, hT => by
    have ih := psum_full h s A j hA T (fun x hx => hT x (by simp [hx]))
    have h1 : 1 ≤ m.length := List.length_pos_iff.2 (hT m (by simp))
    rw [psum_cons, ih]
    unfold ssum
    rw [List.map_cons, List.sum_cons]
    congr 1
    by_cases hs : m.isSuffixOf ((bl s).take j) = true
    · have hle := suf_le hs
      rw [List.length_take] at hle
      rw [if_pos ⟨hs, by omega⟩, if_pos hs]
    · rw [if_neg (fun hh => hs hh.1), if_neg hs]
/-- What stands at a place when all before it has been pushed. -/
theorem pushAt_done {xs : List ByteArray} (h : tableB xs = true) (s : ByteArray) (A k j : Nat) (hjA : j ≤ A) (hj : j ≤ s.size) : pushAt xs s A k j = befAt xs s j := by
  have hne := ne_of_table h
  unfold pushAt
  rw [psum_full h s (A + 1) j (by omega) _ (fun m hm => hne m (List.mem_of_mem_take hm)), psum_full h s A j hjA _ (fun m hm => hne m (List.mem_of_mem_drop hm)), Nat.add_assoc, ← ssum_app, List.take_append_drop]
  by_cases h0 : j = 0
  · subst h0
    rw [if_pos rfl, befAt_zero]
    have hz : ssum (xs.map bl) ((bl s).take 0) (fun n => befAt xs s (0 - n)) = ((xs.map bl).map fun _ => 0).sum := by
      unfold ssum
      refine sum_map_congr fun m hm => if_neg (fun hh => ?_)
      have := suf_le hh
      simp at this
      exact hne m hm this
    rw [hz, sum_zero]
  · rw [if_neg h0, Nat.zero_add, befAt_step h s j (by omega) hj]
theorem psum_le (T : List Bs) (s : Bs) (A B j : Nat) (g : Nat → Nat) (h : A ≤ B) : psum T s A j g ≤ psum T s B j g := by
  unfold psum
  refine sum_map_le fun m _ => ?_
  by_cases h1 : m.isSuffixOf (s.take j) = true ∧ j - m.length < A
  · rw [if_pos h1, if_pos ⟨h1.1, by omega⟩]; exact Nat.le_refl _
  · rw [if_neg h1]; exact Nat.zero_le _
theorem pushAt_le {xs : List ByteArray} (h : tableB xs = true) (s : ByteArray) (hs : s.size ≤ 40) (A k j : Nat) (hj : j ≤ s.size) : pushAt xs s A k j ≤ 1099511627776 := by
  have h1 := befAt_le h s hs j
  rw [← pushAt_done h s (A + j) k j (by omega) hj] at h1
  refine Nat.le_trans ?_ h1
  unfold pushAt
  have h2 := psum_le ((xs.map bl).take k) (bl s) (A + 1) (A + j + 1) j (befAt xs s) (by omega)
  have h3 := psum_le ((xs.map bl).drop k) (bl s) A (A + j) j (befAt xs s) (by omega)
  omega
end Go.Proofs.Ytekgmdigchobbaa
