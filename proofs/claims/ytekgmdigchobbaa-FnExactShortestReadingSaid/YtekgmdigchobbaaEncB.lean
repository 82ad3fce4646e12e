/-
  EncodeMessage, TimeOfMessage, the program's and the model's: both answer alike. Used by the claims on chapter 2.
-/
import Derived.Test.YtekgmdigchobbaaEncS
import Derived.Test.YtekgmdigchobbaaCutL
import Derived.Test.YtekgmdigchobbaaTimeB
namespace Go.Proofs.Ytekgmdigchobbaa
open Go.RowKit
set_option linter.unusedVariables false

def validM (xs : List ByteArray) (m : ByteArray) : Bool := tableB xs && msgL xs.length (bl m)
def encR (xs : List ByteArray) (m : ByteArray) : ByteArray × Bool := if validM xs m = true then (ba (encL (xs.map bl) (bl m)), true) else (⟨#[]⟩, false)
theorem validM_iff {xs : List ByteArray} {m : ByteArray} : validM xs m = true ↔ tableB xs = true ∧ msgL xs.length (bl m) = true := by simp [validM]

/-- What the program's EncodeMessage asks of Go's library: the cell that strings.Split looks at. -/
def MaxIs (w : World) : Prop := ∃ v : Int, w.cell? ⟨0, 0, none⟩ = some (.int .i64 v)

theorem words_len {xs : List ByteArray} {m : ByteArray} (h : validM xs m = true) : (splitL 32 (bl m)).length ≤ 13 ∧ ∀ x ∈ splitL 32 (bl m), x.length ≤ 12 ∧ ∀ u ∈ x, inRow xs.length u = true := by
  obtain ⟨ht, hm⟩ := validM_iff.1 h
  have h12 := msgGo_len hm
  have h1 := len_split 32 (bl m)
  have h3 : ∀ (l : List Bs), l.length ≤ (l.map fun x => x.length + 1).sum ∧ ∀ x ∈ l, x.length + 1 ≤ (l.map fun x => x.length + 1).sum := by
    intro l
    induction l with
    | nil => simp
    | cons y r ih =>
      simp only [List.map_cons, List.sum_cons, List.length_cons, List.mem_cons]
      refine ⟨by omega, fun x hx => ?_⟩
      rcases hx with e | e
      · subst e; omega
      · have := ih.2 x e; omega
  have h4 : ∀ (l : Bs) (x : Bs), x ∈ splitL 32 l → ∀ u ∈ x, u ∈ l ∧ u ≠ 32 := by
    intro l
    induction l with
    | nil => intro x hx u hu; simp [splitL] at hx; subst hx; simp at hu
    | cons c r ih =>
      intro x hx u hu
      by_cases hc : c = 32
      · subst hc
        rw [splitL_hit] at hx
        rcases List.mem_cons.1 hx with e | e
        · subst e; simp at hu
        · have := ih x e u hu; exact ⟨by simp [this.1], this.2⟩
      · obtain ⟨y, ys, hy⟩ := splitL_cons 32 r
        rw [splitL_miss hc hy] at hx
        rcases List.mem_cons.1 hx with e | e
        · subst e
          rcases List.mem_cons.1 hu with e2 | e2
          · subst e2; exact ⟨by simp, hc⟩
          · have := ih y (by rw [hy]; simp) u e2; exact ⟨by simp [this.1], this.2⟩
        · have := ih x (by rw [hy]; simp [e]) u hu; exact ⟨by simp [this.1], this.2⟩
  have h5 := h3 (splitL 32 (bl m))
  refine ⟨by omega, fun x hx => ⟨by have := h5.2 x hx; omega, fun u hu => ?_⟩⟩
  obtain ⟨g1, g2⟩ := h4 _ x hx u hu
  rcases msg_sign hm u g1 with e | e
  · exact absurd e g2
  · exact e
theorem rowIs_below {w w' : World} {b : Nat} {t : TypeId} {n : Nat} {f : Nat → Value} (h : w.rowIs b t n f) (hb : Below w.heap.size w w') : w'.rowIs b t n f := by
  obtain ⟨c, h1, h2, h3⟩ := h
  exact ⟨c, (hb.block b (Array.getElem?_eq_some_iff.1 h1).1).trans h1, h2, h3⟩
theorem MaxIs.below {w w' : World} (h : MaxIs w) (hb : Below w.heap.size w w') : MaxIs w' := by
  obtain ⟨v, hv⟩ := h
  exact ⟨v, (hb.cell (World.block_lt_of_cell? _ _ hv)).trans hv⟩
/-- The word at a place, then its marks. -/
def wordsM (m : ByteArray) : List ByteArray := Lib.splitB ⟨#[32]⟩ 0 (Lib.countB m ⟨#[32]⟩) m
def wordOut (xs : List ByteArray) (m : ByteArray) (k j : Nat) : ByteArray := if j < k then ba (wordL (xs.map bl) (bl ((wordsM m).getD j ⟨#[]⟩))) else (wordsM m).getD j ⟨#[]⟩
theorem wordsM_L (m : ByteArray) : (wordsM m).map bl = splitL 32 (bl m) := splitB_L m 32
theorem wordsM_len (m : ByteArray) : (wordsM m).length = Lib.countB m ⟨#[32]⟩ + 1 := Lib.splitB_all _ (by decide) 0 _ m rfl

end Go.Proofs.Ytekgmdigchobbaa
