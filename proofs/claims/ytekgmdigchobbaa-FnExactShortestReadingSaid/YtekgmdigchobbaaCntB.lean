/-
  CountMarks, the program's and the model's: both answer alike. Used by the claims on chapter 2.
-/
import Derived.Test.YtekgmdigchobbaaBareC
namespace Go.Proofs.Ytekgmdigchobbaa
open Go.RowKit
set_option linter.unusedVariables false

/-- Two numbers in a block. -/
def Two (w : World) (g : Nat) (x y : Int) : Prop := w.heap[g]? = some (.cells #[.int .i64 x, .int .i64 y] 108 (0, 0))
theorem Two.cell0 {w : World} {g : Nat} {x y : Int} (h : Two w g x y) : w.cell? ⟨g, 0, none⟩ = some (.int .i64 x) := by
  unfold World.cell?; unfold Two at h; simp [h]
theorem Two.cell1 {w : World} {g : Nat} {x y : Int} (h : Two w g x y) : w.cell? ⟨g, 1, none⟩ = some (.int .i64 y) := by
  unfold World.cell?; unfold Two at h; simp [h]
theorem Two.frozen {w : World} {g : Nat} {x y : Int} (h : Two w g x y) (j : Nat) : w.frozen? ⟨g, j, none⟩ = false := by
  unfold World.frozen?; unfold Two at h; simp [h]
theorem Two.set0 {w : World} {g : Nat} {x y : Int} (h : Two w g x y) (u : Int) : Two (w.setCell ⟨g, 0, none⟩ (.int .i64 u)) g u y := by
  unfold Two at h ⊢; simp [World.setCell, Array.getElem?_modify, h]
theorem Two.set1 {w : World} {g : Nat} {x y : Int} (h : Two w g x y) (u : Int) : Two (w.setCell ⟨g, 1, none⟩ (.int .i64 u)) g x u := by
  unfold Two at h ⊢; simp [World.setCell, Array.getElem?_modify, h]
theorem two_size : (Try.prog.info? 108).map (·.size) = some 2 := by kernel_rfl
theorem load_two {w : World} {g : Nat} {x y : Int} (h : Two w g x y) : (loadVar 108 ⟨g, 0, none⟩).run Try.prog w = .ok (.agg #[.int .i64 x, .int .i64 y]) w :=
  run_loadVar_row w g 108 108 #[.int .i64 x, .int .i64 y] (0, 0) _ h Try.underlying108 rfl two_size
theorem res_two {fn : Func} {p u : Tmp} (h : fn.results = #[.cell p 108, .tmp u]) (tmps : Array Value) {w : World} {g : Nat} {x y : Int} (hp : tmps.getD p undef = .pointer (some ⟨g, 0, none⟩)) (hb : Two w g x y) : (results fn tmps).run Try.prog w = .ok (.tuple #[.agg #[.int .i64 x, .int .i64 y], tmps.getD u undef]) w := by
  rw [results_cell_tmp h, hp]
  simp [asAddr, load_two hb, Result.andThen]
def cntR (xs : List ByteArray) (m : ByteArray) : (Int × Int) × Bool := if validM xs m = true then (((((bareL (xs.map bl) (bl m)).count 46 : Nat) : Int), (((bareL (xs.map bl) (bl m)).count 45 : Nat) : Int)), true) else ((0, 0), false)

/-! ### The model's -/
theorem Two.below {w w' : World} {g : Nat} {x y : Int} (h : Two w g x y) (hb : Below w.heap.size w w') : Two w' g x y := (hb.block g (Array.getElem?_eq_some_iff.1 h).1).trans h
theorem Two.other {w : World} {g : Nat} {x y : Int} (h : Two w g x y) {p : Addr} (hp : p.block ≠ g) (v : Value) : Two (w.setCell p v) g x y := by
  unfold Two at h ⊢
  simp [World.setCell, Array.getElem?_modify, hp, h]

theorem two_new (w : World) (x y : Int) : Two (w.alloc (.cells #[.int .i64 x, .int .i64 y] 108)) w.heap.size x y := heap_alloc_new _ _
theorem two_first (w : World) (o : Obj) : Two (((w.alloc o).alloc (.cells #[.int .i64 0, .int .i64 0] 108)).alloc (.cells #[.int .i64 0, .int .i64 0] 108)) (w.heap.size + 1) 0 0 := by
  have h := (two_new (w.alloc o) 0 0).below (below_alloc _ (.cells #[.int .i64 0, .int .i64 0] 108))
  have e : (w.alloc o).heap.size = w.heap.size + 1 := by simp
  rw [e] at h; exact h
theorem two_second (w : World) (o : Obj) : Two (((w.alloc o).alloc (.cells #[.int .i64 0, .int .i64 0] 108)).alloc (.cells #[.int .i64 0, .int .i64 0] 108)) (w.heap.size + 1 + 1) 0 0 := by
  have h := two_new ((w.alloc o).alloc (.cells #[.int .i64 0, .int .i64 0] 108)) 0 0
  have e : ((w.alloc o).alloc (.cells #[.int .i64 0, .int .i64 0] 108)).heap.size = w.heap.size + 1 + 1 := by simp
  rw [e] at h; exact h
end Go.Proofs.Ytekgmdigchobbaa
