/-
  Plain: for each place of a text the best number of letters of a reading of what is behind it. Used by the claims on chapter 3.
-/
import Derived.Test.YtekgmdigchobbaaReadL
namespace Go.Proofs.Ytekgmdigchobbaa
open Go.RowKit
set_option linter.unusedVariables false

def btr (m : Bool) (n acc : Int) : Bool := if m = true then decide (acc < n) else decide (n < acc)
def bstep (m : Bool) (v acc : Int) : Int := if v < 0 then acc else if acc < 0 ∨ btr m (v + 1) acc = true then v + 1 else acc
def bfold (m : Bool) (xs : List ByteArray) (s : ByteArray) (f : Nat → Int) (p j : Nat) : Int := (xs.take j).foldl (fun acc x => if stands s x p = true then bstep m (f (p + x.size)) acc else acc) (-1)
def bestT (m : Bool) (xs : List ByteArray) (s : ByteArray) : Nat → Nat → Int
  | 0, _ => 0
  | n + 1, p => if p + (n + 1) = s.size then bfold m xs s (bestT m xs s n) p xs.length else bestT m xs s n p
def bestAt (m : Bool) (xs : List ByteArray) (s : ByteArray) (p : Nat) : Int := bestT m xs s s.size p
def bestPart (m : Bool) (xs : List ByteArray) (s : ByteArray) (p j : Nat) : Int := bfold m xs s (bestAt m xs s) p j

theorem bestT_high (m : Bool) (xs : List ByteArray) (s : ByteArray) : ∀ (n p : Nat), s.size ≤ p → bestT m xs s n p = 0
  | 0, p, h => rfl
  | n + 1, p, h => by rw [bestT, if_neg (by omega)]; exact bestT_high m xs s n p h
theorem bestAt_end (m : Bool) (xs : List ByteArray) (s : ByteArray) : bestAt m xs s s.size = 0 := bestT_high m xs s _ _ (Nat.le_refl _)
theorem bestT_more (m : Bool) (xs : List ByteArray) (s : ByteArray) (p n : Nat) (h : s.size ≤ p + n) : ∀ d, bestT m xs s (n + d) p = bestT m xs s n p
  | 0 => rfl
  | d + 1 => by rw [← Nat.add_assoc, bestT, if_neg (by omega)]; exact bestT_more m xs s p n h d
theorem bestT_at (m : Bool) (xs : List ByteArray) (s : ByteArray) (p n : Nat) (h : s.size ≤ p + n) (hn : n ≤ s.size) : bestT m xs s n p = bestAt m xs s p := by
  have := bestT_more m xs s p n h (s.size - n)
  rw [show n + (s.size - n) = s.size by omega] at this
  exact this.symm
theorem foldl_congr' {α β : Type} {f g : β → α → β} (l : List α) (h : ∀ x ∈ l, ∀ a, f a x = g a x) : ∀ a, l.foldl f a = l.foldl g a := by
  induction l with
  | nil => intro a; rfl
  | cons x r ih =>
    intro a
    simp only [List.foldl_cons]
    rw [h x (by simp), ih (fun y hy => h y (by simp [hy]))]
theorem sizes_of {xs : List ByteArray} (ht : tableB xs = true) : ∀ x ∈ xs, 1 ≤ x.size ∧ x.size ≤ 5 := fun x hx => by
  have h1 := ((tableB_iff xs).1 ht).2.1 x hx
  simp only [marksL, Bool.and_eq_true, decide_eq_true_eq, bl_len] at h1
  exact h1.1
theorem bestPart_zero (m : Bool) (xs : List ByteArray) (s : ByteArray) (p : Nat) : bestPart m xs s p 0 = -1 := rfl
theorem bestPart_succ (m : Bool) (xs : List ByteArray) (s : ByteArray) (p j : Nat) (x : ByteArray) (h : xs[j]? = some x) : bestPart m xs s p (j + 1) = if stands s x p = true then bstep m (bestAt m xs s (p + x.size)) (bestPart m xs s p j) else bestPart m xs s p j := by
  unfold bestPart bfold
  obtain ⟨hj, rfl⟩ := List.getElem?_eq_some_iff.1 h
  rw [List.take_succ_eq_append_getElem hj, List.foldl_append]
  rfl
theorem bestPart_all (m : Bool) {xs : List ByteArray} (ht : tableB xs = true) (s : ByteArray) (p : Nat) (hp : p < s.size) : bestPart m xs s p xs.length = bestAt m xs s p := by
  rw [← bestT_at m xs s p (s.size - p) (by omega) (by omega)]
  obtain ⟨n, hn⟩ : ∃ n, s.size - p = n + 1 := ⟨s.size - p - 1, by omega⟩
  rw [hn, bestT, if_pos (by omega)]
  unfold bestPart bfold
  rw [List.take_length]
  refine foldl_congr' xs (fun x hx a => ?_) _
  have h1 := (sizes_of ht x hx).1
  by_cases hs : stands s x p = true
  · rw [if_pos hs, if_pos hs, bestT_at m xs s (p + x.size) n (by omega) (by omega)]
  · rw [if_neg hs, if_neg hs]
theorem bestPart_bound (m : Bool) {xs : List ByteArray} (ht : tableB xs = true) (s : ByteArray) (p : Nat) (hp : p < s.size) (H : ∀ q, p < q → q ≤ s.size → -1 ≤ bestAt m xs s q ∧ bestAt m xs s q ≤ (s.size : Int) - q) :
    ∀ j, j ≤ xs.length → -1 ≤ bestPart m xs s p j ∧ bestPart m xs s p j ≤ (s.size : Int) - p
  | 0, _ => by rw [bestPart_zero]; omega
  | j + 1, hj => by
    have ih := bestPart_bound m ht s p hp H j (by omega)
    have hx := List.getElem?_eq_getElem (show j < xs.length by omega)
    have hxm := sizes_of ht _ (List.getElem_mem (show j < xs.length by omega))
    generalize xs[j] = x at hx hxm
    rw [bestPart_succ m xs s p j x hx]
    by_cases hs : stands s x p = true
    · rw [if_pos hs]
      have h1 := stands_le (s := s) (m := x) (j := p) (by omega) hs
      have h2 := H (p + x.size) (by omega) h1
      unfold bstep
      split
      · exact ih
      · split <;> omega
    · rw [if_neg hs]; exact ih
theorem bestAt_bound (m : Bool) {xs : List ByteArray} (ht : tableB xs = true) (s : ByteArray) : ∀ (n p : Nat), s.size ≤ n + p → p ≤ s.size → -1 ≤ bestAt m xs s p ∧ bestAt m xs s p ≤ (s.size : Int) - p
  | 0, p, h, hp => by
    obtain rfl : p = s.size := by omega
    rw [bestAt_end]; omega
  | n + 1, p, h, hp => by
    by_cases hlt : p < s.size
    · rw [← bestPart_all m ht s p hlt]
      exact bestPart_bound m ht s p hlt (fun q hq hqs => bestAt_bound m ht s n q (by omega) hqs) _ (Nat.le_refl _)
    · obtain rfl : p = s.size := by omega
      rw [bestAt_end]; omega
theorem bestAt_in (m : Bool) {xs : List ByteArray} (ht : tableB xs = true) (s : ByteArray) (p : Nat) (hp : p ≤ s.size) (h40 : s.size ≤ 40) : -1 ≤ bestAt m xs s p ∧ bestAt m xs s p ≤ 40 := by
  have := bestAt_bound m ht s s.size p (by omega) hp
  omega
theorem bestPart_in (m : Bool) {xs : List ByteArray} (ht : tableB xs = true) (s : ByteArray) (p j : Nat) (hp : p < s.size) (hj : j ≤ xs.length) (h40 : s.size ≤ 40) : -1 ≤ bestPart m xs s p j ∧ bestPart m xs s p j ≤ 40 := by
  have := bestPart_bound m ht s p hp (fun q hq hqs => bestAt_bound m ht s s.size q (by omega) hqs) j hj
  omega
/-- What is not -1 comes from a letter. -/
theorem bestPart_from (m : Bool) {xs : List ByteArray} (ht : tableB xs = true) (s : ByteArray) (p : Nat) (hp : p < s.size) : ∀ j, j ≤ xs.length → bestPart m xs s p j = -1 ∨ ∃ (i : Nat) (x : ByteArray), i < j ∧ xs[i]? = some x ∧ stands s x p = true ∧ 0 ≤ bestAt m xs s (p + x.size) ∧ bestPart m xs s p j = bestAt m xs s (p + x.size) + 1
  | 0, _ => .inl rfl
  | j + 1, hj => by
    have ih := bestPart_from m ht s p hp j (by omega)
    have hx := List.getElem?_eq_getElem (show j < xs.length by omega)
    generalize xs[j] = x at hx
    rw [bestPart_succ m xs s p j x hx]
    by_cases hs : stands s x p = true
    · rw [if_pos hs]
      unfold bstep
      split
      · rcases ih with h | ⟨i, y, h1, h2⟩
        · exact .inl h
        · exact .inr ⟨i, y, by omega, h2⟩
      · split
        · exact .inr ⟨j, x, by omega, hx, hs, by omega, rfl⟩
        · rcases ih with h | ⟨i, y, h1, h2⟩
          · exact .inl h
          · exact .inr ⟨i, y, by omega, h2⟩
    · rw [if_neg hs]
      rcases ih with h | ⟨i, y, h1, h2⟩
      · exact .inl h
      · exact .inr ⟨i, y, by omega, h2⟩

def tkB (m : Bool) (xs : List ByteArray) (s : ByteArray) : Tk Unit := ⟨fun _ p t => decide (bestAt m xs s t ≠ -1 ∧ bestAt m xs s p = bestAt m xs s t + 1), fun _ _ _ => ()⟩
/-- Where there is a reading a letter is found, and where there is none no letter is. -/
theorem scan_best (m : Bool) {xs : List ByteArray} (ht : tableB xs = true) (s : ByteArray) {p : Nat} (hp : p < s.size) : ∀ g j, j + g = xs.length →
    scanG (tkB m xs s) s p (xs.drop j) j () = none ∧ (∀ i x, j ≤ i → xs[i]? = some x → stands s x p = true → bestAt m xs s (p + x.size) ≠ -1 → bestAt m xs s p ≠ bestAt m xs s (p + x.size) + 1) ∨ ∃ i x, xs[i]? = some x ∧ stands s x p = true ∧ bestAt m xs s (p + x.size) ≠ -1 ∧ bestAt m xs s p = bestAt m xs s (p + x.size) + 1 ∧ scanG (tkB m xs s) s p (xs.drop j) j () = some (i, (), x.size)
  | 0, j, hj => by
    obtain rfl : j = xs.length := by omega
    refine .inl ⟨scanG_nil _ s p _ xs (), fun i x h hx => ?_⟩
    have := (List.getElem?_eq_some_iff.1 hx).1
    omega
  | g + 1, j, hj => by
    have hx := List.getElem?_eq_getElem (show j < xs.length by omega)
    generalize xs[j] = x at hx
    by_cases hs : stands s x p = true
    · by_cases hy : bestAt m xs s (p + x.size) ≠ -1 ∧ bestAt m xs s p = bestAt m xs s (p + x.size) + 1
      · exact .inr ⟨j, x, hx, hs, hy.1, hy.2, scanG_yes _ s p j () hx hs (decide_eq_true hy)⟩
      · have e := scanG_no (tkB m xs s) s p j () hx hs (decide_eq_false hy)
        rcases scan_best m ht s hp g (j + 1) (by omega) with ⟨h1, h2⟩ | ⟨i, y, h1, h2, h3, h4, h5⟩
        · refine .inl ⟨e.trans h1, fun i y hi hy2 hs2 hb => ?_⟩
          rcases Nat.eq_or_lt_of_le hi with rfl | hlt
          · rw [hx] at hy2
            cases hy2
            exact fun e2 => hy ⟨hb, e2⟩
          · exact h2 i y hlt hy2 hs2 hb
        · exact .inr ⟨i, y, h1, h2, h3, h4, e.trans h5⟩
    · have e := scanG_off (tkB m xs s) s p j () hx (by simpa using hs)
      rcases scan_best m ht s hp g (j + 1) (by omega) with ⟨h1, h2⟩ | ⟨i, y, h1, h2, h3, h4, h5⟩
      · refine .inl ⟨e.trans h1, fun i y hi hy2 hs2 hb => ?_⟩
        rcases Nat.eq_or_lt_of_le hi with rfl | hlt
        · rw [hx] at hy2
          cases hy2
          exact absurd hs2 hs
        · exact h2 i y hlt hy2 hs2 hb
      · exact .inr ⟨i, y, h1, h2, h3, h4, e.trans h5⟩
theorem scan_found (m : Bool) {xs : List ByteArray} (ht : tableB xs = true) (s : ByteArray) {p : Nat} (hp : p < s.size) (h : bestAt m xs s p ≠ -1) : ∃ i x, xs[i]? = some x ∧ stands s x p = true ∧ 0 ≤ bestAt m xs s (p + x.size) ∧ 1 ≤ bestAt m xs s p ∧ scanG (tkB m xs s) s p xs 0 () = some (i, (), x.size) := by
  rcases bestPart_from m ht s p hp xs.length (Nat.le_refl _) with h1 | ⟨i, x, h1, h2, h3, h4, h5⟩
  · rw [bestPart_all m ht s p hp] at h1
    exact absurd h1 h
  · rw [bestPart_all m ht s p hp] at h5
    rcases scan_best m ht s hp xs.length 0 (by omega) with ⟨_, k2⟩ | ⟨i', y, k1, k2, k3, k4, k5⟩
    · exact absurd h5 (k2 i x (Nat.zero_le _) h2 h3 (by omega))
    · have k6 := (bestAt_bound m ht s s.size (p + y.size) (by omega) (stands_le (by omega) k2)).1
      exact ⟨i', y, k1, k2, by omega, by omega, by rw [List.drop_zero] at k5; exact k5⟩
theorem scan_none (m : Bool) {xs : List ByteArray} (ht : tableB xs = true) (s : ByteArray) {p : Nat} (hp : p < s.size) (h : bestAt m xs s p = -1) : scanG (tkB m xs s) s p xs 0 () = none := by
  rcases scan_best m ht s hp xs.length 0 (by omega) with ⟨h1, _⟩ | ⟨i', y, k1, k2, k3, k4, k5⟩
  · rw [List.drop_zero] at h1; exact h1
  · have k6 := (bestAt_bound m ht s s.size (p + y.size) (by omega) (stands_le (by omega) k2)).1
    omega
def bestR (m : Bool) (xs : List ByteArray) (s : ByteArray) : ByteArray × Bool := if goodB xs s = true then outG (rdG (tkB m xs s) xs s s.size () 0) else (⟨#[]⟩, false)
theorem best_none (m : Bool) {xs : List ByteArray} (ht : tableB xs = true) (s : ByteArray) (h : bestAt m xs s 0 < 0) : rdG (tkB m xs s) xs s s.size () 0 = none := by
  have h1 := (bestAt_bound m ht s s.size 0 (by omega) (Nat.zero_le _)).1
  rcases Nat.eq_zero_or_pos s.size with h0 | h0
  · have := bestAt_end m xs s
    rw [h0] at this; omega
  · obtain ⟨n, hn⟩ : ∃ n, s.size = n + 1 := ⟨s.size - 1, by omega⟩
    have := rdG_none (tkB m xs s) xs s n () h0 (scan_none m ht s h0 (by omega))
    rwa [← hn] at this
end Go.Proofs.Ytekgmdigchobbaa
