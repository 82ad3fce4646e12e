/-
  Plain: how many readings come before a text of letters. Used by the claims on chapter 3.
-/
import Derived.Test.YtekgmdigchobbaaWayS
import Derived.Test.YtekgmdigchobbaaBareB
namespace Go.Proofs.Ytekgmdigchobbaa
open Go.RowKit
set_option linter.unusedVariables false

/-- The bare text of a text of letters. -/
def bareM (xs : List ByteArray) (m : ByteArray) : ByteArray := ba (bareL (xs.map bl) (bl m))
def placeM (xs : List ByteArray) (m : ByteArray) (i : Nat) : Nat := (bareL (xs.map bl) ((bl m).take i)).length
def ownM (m : ByteArray) (i : Nat) : Nat := ((bl m).getD i 0).toNat - 97
def rankTo (xs : List ByteArray) (m : ByteArray) : Nat → Nat
  | 0 => 0
  | i + 1 => rankTo xs m i + wayPart xs (bareM xs m) (placeM xs m i) (ownM m i)
def lettersB (xs : List ByteArray) (m : ByteArray) : Bool := (bl m).all (inRow xs.length)
def rankB (xs : List ByteArray) (m : ByteArray) : Bool := tableB xs && decide (m.size ≤ 40) && lettersB xs m && bareT (bareM xs m)
def rankR (xs : List ByteArray) (m : ByteArray) : Int × Bool := if rankB xs m = true then (((rankTo xs m m.size : Nat) : Int), true) else (0, false)
theorem rankB_iff {xs : List ByteArray} {m : ByteArray} : rankB xs m = true ↔ tableB xs = true ∧ m.size ≤ 40 ∧ lettersB xs m = true ∧ bareT (bareM xs m) = true := by
  simp only [rankB, Bool.and_eq_true, decide_eq_true_eq, and_assoc]
theorem letters_at {xs : List ByteArray} {m : ByteArray} (h : lettersB xs m = true) {k : Nat} (hk : k < m.size) : ∃ i, i < xs.length ∧ m[k].toNat = 97 + i ∧ ownM m k = i := by
  have h1 := List.all_eq_true.1 h _ (List.mem_of_getElem? (bl_at m k hk))
  rw [inRow_iff, Bool.and_eq_true] at h1
  simp only [decide_eq_true_eq] at h1
  refine ⟨m[k].toNat - 97, by omega, by omega, ?_⟩
  unfold ownM
  rw [List.getD_eq_getElem?_getD, bl_at m k hk]; rfl
theorem letters_sp {xs : List ByteArray} {m : ByteArray} (h : lettersB xs m = true) : ∀ u ∈ bl m, u = 32 ∨ inRow xs.length u = true := fun u hu => .inr (List.all_eq_true.1 h u hu)
theorem bareL_next (xs : List ByteArray) (m : ByteArray) {k i : Nat} (hk : k < m.size) (hi : m[k].toNat = 97 + i) {x : ByteArray} (hx : xs[i]? = some x) : bareL (xs.map bl) ((bl m).take (k + 1)) = bareL (xs.map bl) ((bl m).take k) ++ bl x := by
  have hne : m[k] ≠ 32 := fun e => by rw [e] at hi; have : (32 : UInt8).toNat = 32 := rfl; omega
  rw [bareL_take _ _ k _ (bl_at m k hk), if_neg hne, look_bl xs i x hx _ hi]
theorem placeM_next (xs : List ByteArray) (m : ByteArray) {k i : Nat} (hk : k < m.size) (hi : m[k].toNat = 97 + i) {x : ByteArray} (hx : xs[i]? = some x) : placeM xs m (k + 1) = placeM xs m k + x.size := by
  unfold placeM
  rw [bareL_next xs m hk hi hx, List.length_append, bl_len]
theorem bareL_pre (T : List Bs) (l : Bs) (k : Nat) : (bareL T (l.take k)).length ≤ (bareL T l).length := by
  have h1 : bareL T l = bareL T (l.take k) ++ bareL T (l.drop k) := by
    unfold bareL
    rw [← List.flatMap_append, List.take_append_drop]
  rw [h1, List.length_append]; omega
theorem placeM_le (xs : List ByteArray) (m : ByteArray) (k : Nat) : placeM xs m k ≤ (bareM xs m).size := by
  unfold placeM bareM
  rw [ba_size]; exact bareL_pre _ _ _
theorem rankTo_le {xs : List ByteArray} {m : ByteArray} (ht : tableB xs = true) (hl : lettersB xs m = true) (hs : (bareM xs m).size ≤ 40) : ∀ i, i ≤ m.size → rankTo xs m i ≤ i * 1099511627776
  | 0, _ => by simp [rankTo]
  | i + 1, hi => by
    have h1 := rankTo_le ht hl hs i (by omega)
    obtain ⟨j, hj, hij, hown⟩ := letters_at hl (show i < m.size by omega)
    have hx := List.getElem?_eq_getElem hj
    have h2 := placeM_next xs m (show i < m.size by omega) hij hx
    have h3 := placeM_le xs m (i + 1)
    have h4 : 1 ≤ xs[j].size := by
      have := ((tableB_iff xs).1 ht).2.1 _ (List.getElem_mem hj)
      simp only [marksL, Bool.and_eq_true, decide_eq_true_eq, bl_len] at this
      exact this.1.1
    have h5 := wayPart_le ht (bareM xs m) hs (placeM xs m i) (ownM m i) (by omega)
    rw [rankTo]
    omega
theorem bareM_marks {xs : List ByteArray} {m : ByteArray} (ht : tableB xs = true) (hl : lettersB xs m = true) : bareT (bareM xs m) = decide ((bareM xs m).size ≤ 40) := by
  unfold bareT
  have h1 : (bl (bareM xs m)).all isMk = true := by
    unfold bareM
    rw [bl_ba]
    refine List.all_eq_true.2 fun c hc => ?_
    obtain ⟨u, hu, hcu⟩ := List.mem_flatMap.1 hc
    have h2 := List.all_eq_true.1 hl u hu
    rw [inRow_iff, Bool.and_eq_true] at h2
    simp only [decide_eq_true_eq] at h2
    have hne : u ≠ 32 := fun e => by subst e; have : (32 : UInt8).toNat = 32 := rfl; omega
    rw [if_neg hne] at hcu
    have h3 : u.toNat - 97 < xs.length := by omega
    rw [look_bl xs (u.toNat - 97) _ (List.getElem?_eq_getElem h3) u (by omega)] at hcu
    exact List.all_eq_true.1 (marks_all (((tableB_iff xs).1 ht).2.1 _ (List.getElem_mem h3))) c hcu
  rw [h1, Bool.and_true]
theorem rowIs_iter {w : World} {b : Nat} {t : TypeId} {n : Nat} {f : Nat → Value} {k : Nat} {s : ByteArray} {p : Nat} (h : w.rowIs b t n f) (hk : w.heap[k]? = some (.stringIter s p)) (p' : Nat) : (w.iterAt k s p').rowIs b t n f := by
  obtain ⟨c, h1, h2, h3⟩ := h
  refine ⟨c, ?_, h2, h3⟩
  rw [Lib.iterAt_other _ _ _ _ _ (by rintro rfl; rw [hk] at h1; cases h1)]
  exact h1
end Go.Proofs.Ytekgmdigchobbaa
