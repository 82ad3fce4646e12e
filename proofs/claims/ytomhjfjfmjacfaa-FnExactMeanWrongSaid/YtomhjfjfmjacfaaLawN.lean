/-
  What a law's walk carries of its Table's and its noise's own blocks. Used by the claims on chapter 7.
-/
import Derived.Test.YtomhjfjfmjacfaaNoiO
import Derived.Test.YtomhjfjfmjacfaaLawW
import Derived.Deep.RegionHeldLaw
import Derived.Deep.CutRange
namespace Go.Proofs.Ytomhjfjfmjacfaa
open Go.RowKit
set_option linter.unusedVariables false

structure CarW (w : World) (a : Option Addr) (n c : Nat) (N d : Int) (W : World) : Prop where
  car : Carry w a n c W
  noi : Pr2 23 W (w.heap.size + 1) N d
theorem CarW.step {w : World} {a : Option Addr} {n c : Nat} {N d : Int} {W W' : World} (h : CarW w a n c N d W) (hb : Below W.heap.size W W') : CarW w a n c N d W' := ⟨h.car.step hb, h.noi.below hb⟩
theorem CarW.drew {w : World} {a : Option Addr} {n c : Nat} {N d : Int} {W : World} (h : CarW w a n c N d W) : CarW w a n c N d W.drew := h.step (Below.refl W.heap.size W).drew
theorem CarW.box {w : World} {a : Option Addr} {n c : Nat} {N d : Int} {W : World} (h : CarW w a n c N d W) : W.cell? ⟨w.heap.size, 0, none⟩ = some (.slice a n c) := h.car.box
theorem carW_new (w : World) (a : Option Addr) (n c : Nat) (N d : Int) : CarW w a n c N d ((w.alloc (.cells #[.slice a n c] 35)).alloc (.cells #[.int .i64 N, .int .i64 d] 23)) := by
  have hN := pr2_new 23 (w.alloc (.cells #[.slice a n c] 35)) N d
  have e0 : (w.alloc (.cells #[.slice a n c] 35)).heap.size = w.heap.size + 1 := by simp
  rw [e0] at hN
  exact ⟨(Carry.new w a n c _).step (below_alloc _ _), hN⟩
theorem CarW.s {w : World} {a : Option Addr} {n c : Nat} {N d : Int} {W : World} (h : CarW w a n c N d W) : W.cell? ⟨w.heap.size, 0, none⟩ = some (.slice a n c) ∧ W.cell? ⟨w.heap.size + 1, 0, none⟩ = some (.int .i64 N) ∧ W.cell? ⟨w.heap.size + 1, 1, none⟩ = some (.int .i64 d) := ⟨h.box, h.noi.cell0, h.noi.cell1⟩
theorem CarW.set {w : World} {a : Option Addr} {n c : Nat} {N d : Int} {W : World} (h : CarW w a n c N d W) {g : Nat} (hg : w.heap.size + 1 < g) (u v : Value) : CarW w a n c N d ((W.setCell ⟨g, 0, none⟩ u).setCell ⟨g, 1, none⟩ v) := by
  have h0 : Below w.heap.size w ((W.setCell ⟨g, 0, none⟩ u).setCell ⟨g, 1, none⟩ v) := (h.car.below.setCell (p := ⟨g, 0, none⟩) (by show w.heap.size ≤ g; omega) u).setCell (p := ⟨g, 1, none⟩) (by show w.heap.size ≤ g; omega) v
  refine ⟨⟨h0, ?_, ?_⟩, ?_⟩
  · rw [World.cell?_setCell_far _ _ _ _ (by show g ≠ w.heap.size; omega), World.cell?_setCell_far _ _ _ _ (by show g ≠ w.heap.size; omega)]; exact h.car.box
  · have := h.car.lt; simpa using this
  · have := h.noi
    unfold Pr2 at this ⊢
    have e1 : ¬ g = w.heap.size + 1 := by omega
    simp [World.setCell, Array.getElem?_modify, e1, this]
theorem CarW.lt {w : World} {a : Option Addr} {n c : Nat} {N d : Int} {W : World} (h : CarW w a n c N d W) : w.heap.size + 1 < W.heap.size := h.noi.lt
end Go.Proofs.Ytomhjfjfmjacfaa
