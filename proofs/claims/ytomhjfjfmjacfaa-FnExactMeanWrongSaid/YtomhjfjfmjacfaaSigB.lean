/-
  IsSignal, the program's and the model's: both answer alike. Used by the claims on chapter 2.
-/
import Derived.Test.YtomhjfjfmjacfaaWordsW
namespace Go.Proofs.Ytomhjfjfmjacfaa
open Go.RowKit
set_option linter.unusedVariables false

/-- What a walk reads of the words: each word's slice lies in the row, each text in its own. -/
structure WRead (W : World) (v : Value) (ws : List (List ByteArray)) : Prop where
  outer : ∃ g cap, v = .slice (some ⟨g, 0, none⟩) ws.length cap ∧ ∀ i ys, ws[i]? = some ys → ∃ a b c, W.cell? ⟨g, i, none⟩ = some (.slice a (List.length ys) c) ∧ Src W a b 0 ys
theorem wread_of {W : World} {base : Nat} {v : Value} {vs : List Value} {ws : List (List ByteArray)} (h : W.ownsRow base 33 1 v ws.length vs) (hw : WordsAt W base vs ws) (h0 : 0 < ws.length) : WRead W v ws := by
  have h' := h
  rcases h.2 with ⟨_, h1⟩ | ⟨g, cap, cur, rfl, hg, hh, _⟩
  · omega
  · refine ⟨g, cap, rfl, fun i ys hy => ?_⟩
    obtain ⟨u, hu, hr⟩ := hw.2 i ys hy
    have hc := h'.cells (g := g) rfl i u hu
    rw [Addr.add_lit, Nat.zero_add] at hc
    by_cases hy0 : 0 < ys.length
    · obtain ⟨g2, cap2, rfl, hsrc⟩ := row_srcW hr hy0
      exact ⟨_, g2, cap2, hc, hsrc⟩
    · have hnil : ys = [] := List.length_eq_zero_iff.1 (by omega)
      subst hnil
      obtain ⟨a, cap2, rfl⟩ := row_form hr
      exact ⟨a, 0, cap2, hc, ⟨fun h => by simp at h, fun j x hx => by simp at hx⟩⟩
theorem WRead.drewN {W : World} {v : Value} {ws : List (List ByteArray)} (h : WRead W v ws) (q : Nat) : WRead (W.drewN q) v ws := ⟨h.outer⟩

def manyB (ws : List (List ByteArray)) : Nat := (ws.map (fun w => w.length + 1)).sum
def allB (ws : List (List ByteArray)) : Bool := ws.all (fun w => w.all (fun x => marksL (bl x)))
theorem manyB_take (ws : List (List ByteArray)) (k : Nat) (y : List ByteArray) (h : ws[k]? = some y) : manyB (ws.take (k + 1)) = manyB (ws.take k) + y.length + 1 := by
  unfold manyB
  rw [List.take_add_one, h]
  simp; omega
theorem manyB_take_le (ws : List (List ByteArray)) : ∀ k, manyB (ws.take k) ≤ manyB ws := by
  induction ws with
  | nil => intro k; simp [manyB]
  | cons y r ih =>
    intro k
    cases k with
    | zero => simp [manyB]
    | succ k =>
      have := ih k
      simp only [manyB, List.take_succ_cons, List.map_cons, List.sum_cons] at this ⊢
      omega
theorem manyB_L (s : ByteArray) : manyB (wordsB s) = many (wordsL (bl s)) := by
  rw [← wordsB_L]
  unfold manyB many
  rw [List.map_map]
  congr 1
  exact List.map_congr_left fun w _ => by simp
theorem allB_L (s : ByteArray) : allB (wordsB s) = allMk (wordsL (bl s)) := by
  rw [← wordsB_L]
  unfold allB allMk
  rw [List.all_map]
  congr 1
  funext w
  simp [List.all_map, Function.comp_def]
theorem manyB_bd (s : ByteArray) : manyB (wordsB s) ≤ 2 * s.size + 2 := by
  have h1 := len_split 47 (bl s)
  rw [← splitS_L, bl_len] at h1
  unfold manyB wordsB
  rw [List.map_map]
  have h2 : ∀ xs : List ByteArray, (xs.map ((fun w : List ByteArray => w.length + 1) ∘ fun x => splitS x 32)).sum ≤ 2 * ((xs.map bl).map (fun y => y.length + 1)).sum := by
    intro xs
    induction xs with
    | nil => simp
    | cons y r ih =>
      have := (splitS_len y 32).2
      simp only [List.map_cons, List.sum_cons, Function.comp, bl_len] at ih ⊢
      omega
  have := h2 (splitS s 47)
  omega
theorem sig_words {s : ByteArray} (h : bl s ≠ []) : (pieces (bl s)).isSome = (decide (s.size ≤ 72) && (allB (wordsB s) && decide (manyB (wordsB s) ≤ 13))) := by
  rw [pieces_words _ h, allB_L, manyB_L, bl_len]
  by_cases hc : s.size ≤ 72 ∧ allMk (wordsL (bl s)) = true ∧ many (wordsL (bl s)) ≤ 13
  · rw [if_pos hc]; simp [hc.1, hc.2.1, hc.2.2]
  · rw [if_neg hc]
    have : ¬ (s.size ≤ 72 ∧ allMk (wordsL (bl s)) = true ∧ many (wordsL (bl s)) ≤ 13) := hc
    simp only [Option.isSome_none]
    symm
    rw [Bool.eq_false_iff]
    intro h2
    simp only [Bool.and_eq_true, decide_eq_true_eq] at h2
    exact hc ⟨h2.1, h2.2.1, h2.2.2⟩

end Go.Proofs.Ytomhjfjfmjacfaa
