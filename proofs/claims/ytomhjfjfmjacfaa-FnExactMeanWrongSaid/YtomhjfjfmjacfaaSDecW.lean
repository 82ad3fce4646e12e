/-
  DecodeSignal of the model; both answer alike. Used by the claims on chapter 2.
-/
import Derived.Test.YtomhjfjfmjacfaaDecW
import Derived.Test.YtomhjfjfmjacfaaSigB
namespace Go.Proofs.Ytomhjfjfmjacfaa
open Go.RowKit
set_option linter.unusedVariables false

theorem ba_app (l r : Bs) : ba l ++ ba r = ba (l ++ r) := by unfold ba; apply ByteArray.ext; simp
theorem ba_len (l : Bs) : (ba l).size = l.length := ba_size l

/-- What is left behind k words: a gap ahead of each further word. -/
def tailF (WL : List (List Bs)) (k : Nat) : List Bs := if k = 0 then flat WL else if k < WL.length then [47] :: flat (WL.drop k) else []
theorem tailF_word (WL : List (List Bs)) (k : Nat) (y : List Bs) (h : WL[k]? = some y) : flat (WL.drop k) = y ++ tailF WL (k + 1) := by
  obtain ⟨hl, e⟩ := List.getElem?_eq_some_iff.1 h
  rw [List.drop_eq_getElem_cons hl, e]
  unfold tailF
  rw [if_neg (by omega)]
  by_cases h1 : k + 1 < WL.length
  · rw [if_pos h1, flat_cons _ _ (by intro e2; have := congrArg List.length e2; simp at this; omega)]
  · rw [if_neg h1, List.drop_of_length_le (by omega)]
    simp [flat]
theorem WRead.below {W W' : World} {v : Value} {ws : List (List ByteArray)} (h : WRead W v ws) (hb : Below W.heap.size W W') : WRead W' v ws := by
  obtain ⟨g, cap, hv, hc⟩ := h.outer
  refine ⟨g, cap, hv, fun i ys hy => ?_⟩
  obtain ⟨a, b, c, h1, h2⟩ := hc i ys hy
  exact ⟨a, b, c, (hb.cell (p := ⟨g, i, none⟩) (World.block_lt_of_cell? _ _ h1)).trans h1, h2.below hb⟩

theorem split_le (t : ByteArray) (b : UInt8) : ∀ x ∈ splitS t b, x.size ≤ t.size := by
  intro x hx
  have h1 := len_split b (bl t)
  rw [← splitS_L, bl_len] at h1
  have h2 : ∀ xs : List ByteArray, x ∈ xs → x.size + 1 ≤ ((xs.map bl).map (fun y => y.length + 1)).sum := by
    intro xs
    induction xs with
    | nil => intro h; cases h
    | cons y r ih =>
      intro h
      simp only [List.map_cons, List.sum_cons]
      rcases List.mem_cons.1 h with rfl | h
      · rw [bl_len]; omega
      · have := ih h; omega
  have := h2 _ hx
  omega

end Go.Proofs.Ytomhjfjfmjacfaa
