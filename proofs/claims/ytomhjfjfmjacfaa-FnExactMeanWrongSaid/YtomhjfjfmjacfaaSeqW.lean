/-
  Slices of numbers in memory; the laws' own eqIntS, markIntS, heldIntS. Used by the claims on chapter 3.
-/
import Derived.Test.YtomhjfjfmjacfaaGrow0
import Derived.Test.YtomhjfjfmjacfaaTwoW
import Derived.Test.YtomhjfjfmjacfaaSeqV
namespace Go.Proofs.Ytomhjfjfmjacfaa
open Go.RowKit
set_option linter.unusedVariables false

theorem srcV_cells {w : World} {a : Option Addr} {g : Nat} {vs : List Value} (h : SrcV w a g vs) (ho : Open w g vs.length) : ∀ j, j < vs.length → (∃ v, w.cell? ⟨g, j, none⟩ = some v) ∧ w.frozen? ⟨g, j, none⟩ = false := fun j hj =>
  ⟨⟨_, h.2 j _ (List.getElem?_eq_getElem hj)⟩, ho j hj⟩
theorem mark_blockV {W : World} {a : Option Addr} {q m : Nat} {vs : List Value} {l : List (Nat × Value)} (hs : SrcV W a q vs) (ho : Open W q vs.length) (hb : Bx W l) (hm : m < W.heap.size) (hq : 0 < vs.length → m < q ∧ ∀ p ∈ l, p.1 ≠ q) :
    ∃ k, SrcV W a k vs ∧ Open W k vs.length ∧ m < k ∧ (∀ p ∈ l, p.1 ≠ k) ∧ (0 < vs.length → k = q) := by
  by_cases h0 : 0 < vs.length
  · exact ⟨q, hs, ho, (hq h0).1, (hq h0).2, fun _ => rfl⟩
  · have hnil : vs = [] := List.length_eq_zero_iff.1 (by omega)
    subst hnil
    exact ⟨W.heap.size, ⟨fun h => by simp at h, fun j x hx => by simp at hx⟩, fun j hj => by simp at hj, hm, fun p hp e => by have := hb.lt p hp; omega, fun h => by simp at h⟩
theorem mark_blockR {W : World} {a : Option Addr} {q m : Nat} {vs : List Value} (hs : SrcV W a q vs) (ho : Open W q vs.length) (hm : m ≤ W.heap.size) (hq : 0 < vs.length → m ≤ q) :
    ∃ k, SrcV W a k vs ∧ Open W k vs.length ∧ m ≤ k ∧ (0 < vs.length → k = q) := by
  by_cases h0 : 0 < vs.length
  · exact ⟨q, hs, ho, hq h0, fun _ => rfl⟩
  · have hnil : vs = [] := List.length_eq_zero_iff.1 (by omega)
    subst hnil
    exact ⟨W.heap.size, ⟨fun h => by simp at h, fun j x hx => by simp at hx⟩, fun j hj => by simp at hj, hm, fun h => by simp at h⟩
structure MarkedI (w wr : World) (g n i : Nat) : Prop where
  grown : w.grownBy wr (some g)
  done : ∀ j, j < i → wr.cell? ⟨g, j, none⟩ = some (.int .i64 ((1 + j : Nat) : Int))
  open_ : ∀ j, j < n → (∃ v, wr.cell? ⟨g, j, none⟩ = some v) ∧ wr.frozen? ⟨g, j, none⟩ = false
theorem MarkedI.step {w wr : World} {g n i : Nat} (h : MarkedI w wr g n i) (hi : i < n) : MarkedI w (wr.setCell ⟨g, i, none⟩ (.int .i64 ((1 + i : Nat) : Int))) g n (i + 1) := by
  obtain ⟨⟨v, hv⟩, hf⟩ := h.open_ i hi
  have other : ∀ j, j ≠ i → (wr.setCell ⟨g, i, none⟩ (.int .i64 ((1 + i : Nat) : Int))).cell? ⟨g, j, none⟩ = wr.cell? ⟨g, j, none⟩ := fun j hj =>
    World.cell?_setCell_other _ _ _ _ (by intro e; cases e; exact hj rfl)
  have same : (wr.setCell ⟨g, i, none⟩ (.int .i64 ((1 + i : Nat) : Int))).cell? ⟨g, i, none⟩ = some (.int .i64 ((1 + i : Nat) : Int)) :=
    World.cell?_setCell_same' _ _ _ (by rw [hv]; rfl)
  refine ⟨grown_trans_some h.grown (grown_set i _), fun j hj => ?_, fun j hj => ⟨?_, ?_⟩⟩
  · by_cases e : j = i
    · subst e; exact same
    · rw [other j e]; exact h.done j (by omega)
  · by_cases e : j = i
    · subst e; exact ⟨_, same⟩
    · rw [other j e]; exact (h.open_ j hj).1
  · rw [World.frozen?_setCell]; exact (h.open_ j hj).2

theorem marksI_below {W W' : World} {q n : Nat} (h : ∀ j, j < n → W.cell? ⟨q, j, none⟩ = some (.int .i64 ((1 + j : Nat) : Int))) (hb : Below W.heap.size W W') : ∀ j, j < n → W'.cell? ⟨q, j, none⟩ = some (.int .i64 ((1 + j : Nat) : Int)) := fun j hj =>
  (hb.cell (p := ⟨q, j, none⟩) (World.block_lt_of_cell? _ _ (h j hj))).trans (h j hj)
end Go.Proofs.Ytomhjfjfmjacfaa
