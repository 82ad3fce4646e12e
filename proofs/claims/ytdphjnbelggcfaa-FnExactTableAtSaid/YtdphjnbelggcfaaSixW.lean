/-
  Six numbers in a block; the laws' own eqIntA6. Used by the claims on chapter 9.
-/
import Derived.Test.YtdphjnbelggcfaaSeqW
import Derived.BigQuiet
namespace Go.Proofs.Ytdphjnbelggcfaa
open Go.RowKit
set_option linter.unusedVariables false

abbrev six (f : Nat → Int) : Array Value := #[.int .i64 (f 0), .int .i64 (f 1), .int .i64 (f 2), .int .i64 (f 3), .int .i64 (f 4), .int .i64 (f 5)]
/-- Six numbers in a block. -/
def Six (w : World) (g : Nat) (f : Nat → Int) : Prop := w.heap[g]? = some (.cells (six f) 49 (0, 0))
theorem Six.cell {w : World} {g : Nat} {f : Nat → Int} (h : Six w g f) (j : Nat) (hj : j < 6) : w.cell? ⟨g, j, none⟩ = some (.int .i64 (f j)) := by
  unfold World.cell?; unfold Six six at h
  rcases (show j = 0 ∨ j = 1 ∨ j = 2 ∨ j = 3 ∨ j = 4 ∨ j = 5 by omega) with rfl | rfl | rfl | rfl | rfl | rfl <;> simp [h]
theorem Six.frozen {w : World} {g : Nat} {f : Nat → Int} (h : Six w g f) (j : Nat) : w.frozen? ⟨g, j, none⟩ = false := by
  unfold World.frozen?; unfold Six at h; simp [h]
theorem Six.set {w : World} {g : Nat} {f : Nat → Int} (h : Six w g f) (j : Nat) (hj : j < 6) (u : Int) : Six (w.setCell ⟨g, j, none⟩ (.int .i64 u)) g (fun i => if i = j then u else f i) := by
  unfold Six six at h ⊢
  rcases (show j = 0 ∨ j = 1 ∨ j = 2 ∨ j = 3 ∨ j = 4 ∨ j = 5 by omega) with rfl | rfl | rfl | rfl | rfl | rfl <;> simp [World.setCell, Array.getElem?_modify, h]
theorem Six.congr {w : World} {g : Nat} {f f' : Nat → Int} (h : Six w g f) (e : ∀ j, j < 6 → f j = f' j) : Six w g f' := by
  unfold Six six at h ⊢
  rw [← e 0 (by omega), ← e 1 (by omega), ← e 2 (by omega), ← e 3 (by omega), ← e 4 (by omega), ← e 5 (by omega)]; exact h
theorem six_size : (Try.prog.info? 49).map (·.size) = some 6 := by kernel_rfl
theorem load_six {w : World} {g : Nat} {f : Nat → Int} (h : Six w g f) : (loadVar 49 ⟨g, 0, none⟩).run Try.prog w = .ok (.agg (six f)) w :=
  run_loadVar_row w g 49 49 (six f) (0, 0) _ h Try.underlying49 rfl six_size
theorem Six.below {w w' : World} {g : Nat} {f : Nat → Int} (h : Six w g f) (hb : Below w.heap.size w w') : Six w' g f := (hb.block g (Array.getElem?_eq_some_iff.1 h).1).trans h
theorem Six.other {w : World} {g : Nat} {f : Nat → Int} (h : Six w g f) {p : Addr} (hp : p.block ≠ g) (v : Value) : Six (w.setCell p v) g f := by
  unfold Six at h ⊢
  simp [World.setCell, Array.getElem?_modify, hp, h]
theorem six_new (w : World) (f : Nat → Int) : Six (w.alloc (.cells (six f) 49)) w.heap.size f := heap_alloc_new _ _
theorem res_six {fn : Func} {p u : Tmp} (h : fn.results = #[.cell p 49, .tmp u]) (tmps : Array Value) {w : World} {g : Nat} {f : Nat → Int} (hp : tmps.getD p undef = .pointer (some ⟨g, 0, none⟩)) (hb : Six w g f) : (results fn tmps).run Try.prog w = .ok (.tuple #[.agg (six f), tmps.getD u undef]) w := by
  rw [results_cell_tmp h, hp]
  simp [asAddr, load_six hb, Result.andThen]
end Go.Proofs.Ytdphjnbelggcfaa
