/-
  Two numbers in a block; the laws' own eqIntA2: two pairs of numbers. Used by the claims on chapters 2 to 4.
-/
import Derived.Test.YthkafalpjokfeaaGrow0
import Derived.LoopTactic
import Derived.Handy
import Derived.Lib.Hide
import Derived.IntWalk
import Derived.WalkSpells
import Derived.Deep.QuietTactic
import Derived.BigQuiet
namespace Go.Proofs.Ythkafalpjokfeaa
open Go.RowKit
set_option linter.unusedVariables false

/-- Two numbers in a block. -/
def Two (w : World) (g : Nat) (x y : Int) : Prop := w.heap[g]? = some (.cells #[.int .i64 x, .int .i64 y] 43 (0, 0))
theorem Two.cell0 {w : World} {g : Nat} {x y : Int} (h : Two w g x y) : w.cell? ⟨g, 0, none⟩ = some (.int .i64 x) := by
  unfold World.cell?; unfold Two at h; simp [h]
theorem Two.cell1 {w : World} {g : Nat} {x y : Int} (h : Two w g x y) : w.cell? ⟨g, 1, none⟩ = some (.int .i64 y) := by
  unfold World.cell?; unfold Two at h; simp [h]
theorem Two.frozen {w : World} {g : Nat} {x y : Int} (h : Two w g x y) (j : Nat) : w.frozen? ⟨g, j, none⟩ = false := by
  unfold World.frozen?; unfold Two at h; simp [h]
theorem Two.set0 {w : World} {g : Nat} {x y : Int} (h : Two w g x y) (u : Int) : Two (w.setCell ⟨g, 0, none⟩ (.int .i64 u)) g u y := by
  unfold Two at h ⊢; simp [World.setCell, Array.getElem?_modify, h]
theorem Two.set1 {w : World} {g : Nat} {x y : Int} (h : Two w g x y) (u : Int) : Two (w.setCell ⟨g, 1, none⟩ (.int .i64 u)) g x u := by
  unfold Two at h ⊢; simp [World.setCell, Array.getElem?_modify, h]
theorem two_size : (Try.prog.info? 43).map (·.size) = some 2 := by kernel_rfl
theorem load_two {w : World} {g : Nat} {x y : Int} (h : Two w g x y) : (loadVar 43 ⟨g, 0, none⟩).run Try.prog w = .ok (.agg #[.int .i64 x, .int .i64 y]) w :=
  run_loadVar_row w g 43 43 #[.int .i64 x, .int .i64 y] (0, 0) _ h Try.underlying43 rfl two_size
theorem res_two {fn : Func} {p u : Tmp} (h : fn.results = #[.cell p 43, .tmp u]) (tmps : Array Value) {w : World} {g : Nat} {x y : Int} (hp : tmps.getD p undef = .pointer (some ⟨g, 0, none⟩)) (hb : Two w g x y) : (results fn tmps).run Try.prog w = .ok (.tuple #[.agg #[.int .i64 x, .int .i64 y], tmps.getD u undef]) w := by
  rw [results_cell_tmp h, hp]
  simp [asAddr, load_two hb, Result.andThen]
theorem Two.below {w w' : World} {g : Nat} {x y : Int} (h : Two w g x y) (hb : Below w.heap.size w w') : Two w' g x y := (hb.block g (Array.getElem?_eq_some_iff.1 h).1).trans h
theorem Two.other {w : World} {g : Nat} {x y : Int} (h : Two w g x y) {p : Addr} (hp : p.block ≠ g) (v : Value) : Two (w.setCell p v) g x y := by
  unfold Two at h ⊢
  simp [World.setCell, Array.getElem?_modify, hp, h]

theorem two_new (w : World) (x y : Int) : Two (w.alloc (.cells #[.int .i64 x, .int .i64 y] 43)) w.heap.size x y := heap_alloc_new _ _
set_option maxHeartbeats 1000000 in
theorem eqA2_yes (x y : Int) (w : World) :
    Calls Try.prog 33 #[.agg #[.int .i64 x, .int .i64 y], .agg #[.int .i64 x, .int .i64 y]] w fun e w' => e = .returned (.bool true) ∧ Below w.heap.size w w' := by
  go_enter Try.func33, Try.ntmps33
  go_wp2
  have hT1 := (two_new w x y).below (below_alloc _ (.cells #[.int .i64 x, .int .i64 y] 43))
  have hT2 := two_new (w.alloc (.cells #[.int .i64 x, .int .i64 y] 43)) x y
  have e0 : (w.alloc (.cells #[.int .i64 x, .int .i64 y] 43)).heap.size = w.heap.size + 1 := by simp
  rw [e0] at hT2
  have hb0 := (below_alloc w (.cells #[.int .i64 x, .int .i64 y] 43)).alloc (by simp) (.cells #[.int .i64 x, .int .i64 y] 43)
  generalize ((w.alloc (.cells #[.int .i64 x, .int .i64 y] 43)).alloc (.cells #[.int .i64 x, .int .i64 y] 43)) = W0 at hT1 hT2 hb0 ⊢
  have HB0 := Lib.hid hb0
  have H1 := Lib.hid hT1
  have H2 := Lib.hid hT2
  clear hb0 hT1 hT2 e0
  go_loopw [5] (fun v wr => ∃ k q : Nat, v = .int .i64 k ∧ k ≤ 2 ∧ wr = W0.drewN q) (fun v _ => 2 - (intOf v).toNat)
  case atStart => exact ⟨0, 0, rfl, by omega, rfl⟩
  case round =>
    obtain ⟨k, q, rfl, hk, rfl⟩ := hrel
    have d1 : W0.cell? ⟨w.heap.size, 0, none⟩ = some (.int .i64 x) := H1.out.cell0
    have d2 : W0.cell? ⟨w.heap.size, 1, none⟩ = some (.int .i64 y) := H1.out.cell1
    have d3 : W0.cell? ⟨w.heap.size + 1, 0, none⟩ = some (.int .i64 x) := H2.out.cell0
    have d4 : W0.cell? ⟨w.heap.size + 1, 1, none⟩ = some (.int .i64 y) := H2.out.cell1
    rcases (show k = 0 ∨ k = 1 ∨ k = 2 by omega) with e | e | e
    · subst e
      go_wp2
      go_quiet (fail)
      go_wp2
      go_roundw
      case rel => exact ⟨1, _, by go_num, by omega, rfl⟩
      case measure => simp [intOf]
    · subst e
      go_wp2
      go_quiet (fail)
      go_wp2
      go_roundw
      case rel => exact ⟨2, _, by go_num, by omega, rfl⟩
      case measure => simp [intOf]
    · subst e
      go_wp2
      go_ret
      exact ⟨rfl, HB0.out.trans ⟨rfl, rfl, rfl, Nat.le_refl _, fun _ _ => rfl⟩⟩
end Go.Proofs.Ythkafalpjokfeaa
