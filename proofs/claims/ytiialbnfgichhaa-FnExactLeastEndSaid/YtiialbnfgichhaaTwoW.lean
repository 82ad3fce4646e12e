/-
  Two numbers in a block; the laws' own eqIntA2: two pairs of numbers. Used by the claims on chapters 2 to 4.
-/
import Derived.Test.YtiialbnfgichhaaGrow0
import Derived.LoopTactic
import Derived.Handy
import Derived.Lib.Hide
import Derived.IntWalk
import Derived.WalkSpells
import Derived.Deep.QuietTactic
import Derived.BigQuiet
namespace Go.Proofs.Ytiialbnfgichhaa
open Go.RowKit
set_option linter.unusedVariables false

/-- Two numbers in a block. -/
def Two (w : World) (g : Nat) (x y : Int) : Prop := w.heap[g]? = some (.cells #[.int .i64 x, .int .i64 y] 103 (0, 0))
theorem Two.cell0 {w : World} {g : Nat} {x y : Int} (h : Two w g x y) : w.cell? ⟨g, 0, none⟩ = some (.int .i64 x) := by
  unfold World.cell?; unfold Two at h; simp [h]
theorem Two.cell1 {w : World} {g : Nat} {x y : Int} (h : Two w g x y) : w.cell? ⟨g, 1, none⟩ = some (.int .i64 y) := by
  unfold World.cell?; unfold Two at h; simp [h]
theorem Two.frozen {w : World} {g : Nat} {x y : Int} (h : Two w g x y) (j : Nat) : w.frozen? ⟨g, j, none⟩ = false := by
  unfold World.frozen?; unfold Two at h; simp [h]
theorem Two.set0 {w : World} {g : Nat} {x y : Int} (h : Two w g x y) (u : Int) : Two (w.setCell ⟨g, 0, none⟩ (.int .i64 u)) g u y := by
  unfold Two at h ⊢; simp [World.setCell, Array.getElem?_modify, h]
theorem Two.set1 {w : World} {g : Nat} {x y : Int} (h : Two w g x y) (u : Int) : Two (w.setCell ⟨g, 1, none⟩ (.int .i64 u)) g x u := by
  unfold Two at h ⊢; simp [World.setCell, Array.getElem?_modify, h]
theorem two_size : (Try.prog.info? 103).map (·.size) = some 2 := by kernel_rfl
theorem load_two {w : World} {g : Nat} {x y : Int} (h : Two w g x y) : (loadVar 103 ⟨g, 0, none⟩).run Try.prog w = .ok (.agg #[.int .i64 x, .int .i64 y]) w :=
  run_loadVar_row w g 103 103 #[.int .i64 x, .int .i64 y] (0, 0) _ h Try.underlying103 rfl two_size
theorem res_two {fn : Func} {p u : Tmp} (h : fn.results = #[.cell p 103, .tmp u]) (tmps : Array Value) {w : World} {g : Nat} {x y : Int} (hp : tmps.getD p undef = .pointer (some ⟨g, 0, none⟩)) (hb : Two w g x y) : (results fn tmps).run Try.prog w = .ok (.tuple #[.agg #[.int .i64 x, .int .i64 y], tmps.getD u undef]) w := by
  rw [results_cell_tmp h, hp]
  simp [asAddr, load_two hb, Result.andThen]
theorem Two.below {w w' : World} {g : Nat} {x y : Int} (h : Two w g x y) (hb : Below w.heap.size w w') : Two w' g x y := (hb.block g (Array.getElem?_eq_some_iff.1 h).1).trans h
theorem Two.other {w : World} {g : Nat} {x y : Int} (h : Two w g x y) {p : Addr} (hp : p.block ≠ g) (v : Value) : Two (w.setCell p v) g x y := by
  unfold Two at h ⊢
  simp [World.setCell, Array.getElem?_modify, hp, h]

theorem two_new (w : World) (x y : Int) : Two (w.alloc (.cells #[.int .i64 x, .int .i64 y] 103)) w.heap.size x y := heap_alloc_new _ _
end Go.Proofs.Ytiialbnfgichhaa
