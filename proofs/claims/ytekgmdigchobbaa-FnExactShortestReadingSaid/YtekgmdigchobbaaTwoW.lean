/-
  The laws' own eqIntA2: two pairs of numbers. Used by the claims on chapters 2 and 3.
-/
import Derived.Test.YtekgmdigchobbaaCntB
namespace Go.Proofs.Ytekgmdigchobbaa
open Go.RowKit
set_option linter.unusedVariables false

set_option maxHeartbeats 1000000 in
theorem eqA2_yes (x y : Int) (w : World) :
    Calls Try.prog 124 #[.agg #[.int .i64 x, .int .i64 y], .agg #[.int .i64 x, .int .i64 y]] w fun e w' => e = .returned (.bool true) ∧ Below w.heap.size w w' := by
  go_enter Try.func124, Try.ntmps124
  go_wp2
  have hT1 := (two_new w x y).below (below_alloc _ (.cells #[.int .i64 x, .int .i64 y] 108))
  have hT2 := two_new (w.alloc (.cells #[.int .i64 x, .int .i64 y] 108)) x y
  have e0 : (w.alloc (.cells #[.int .i64 x, .int .i64 y] 108)).heap.size = w.heap.size + 1 := by simp
  rw [e0] at hT2
  have hb0 := (below_alloc w (.cells #[.int .i64 x, .int .i64 y] 108)).alloc (by simp) (.cells #[.int .i64 x, .int .i64 y] 108)
  generalize ((w.alloc (.cells #[.int .i64 x, .int .i64 y] 108)).alloc (.cells #[.int .i64 x, .int .i64 y] 108)) = W0 at hT1 hT2 hb0 ⊢
  have HB0 := Lib.hid hb0
  have H1 := Lib.hid hT1
  have H2 := Lib.hid hT2
  clear hb0 hT1 hT2 e0
  go_loopw [5] (fun v wr => ∃ k q : Nat, v = .int .i64 k ∧ k ≤ 2 ∧ wr = W0.drewN q) (fun v _ => 2 - (intOf v).toNat)
  case atStart => exact ⟨0, 0, rfl, by omega, rfl⟩
  case round =>
    obtain ⟨k, q, rfl, hk, rfl⟩ := hrel
    have d1 : W0.cell? ⟨w.heap.size, 0, none⟩ = some (.int .i64 x) := H1.out.cell0
    have d2 : W0.cell? ⟨w.heap.size, 1, none⟩ = some (.int .i64 y) := H1.out.cell1
    have d3 : W0.cell? ⟨w.heap.size + 1, 0, none⟩ = some (.int .i64 x) := H2.out.cell0
    have d4 : W0.cell? ⟨w.heap.size + 1, 1, none⟩ = some (.int .i64 y) := H2.out.cell1
    rcases (show k = 0 ∨ k = 1 ∨ k = 2 by omega) with e | e | e
    · subst e
      go_wp2
      go_quiet (fail)
      go_wp2
      go_roundw
      case rel => exact ⟨1, _, by go_num, by omega, rfl⟩
      case measure => simp [intOf]
    · subst e
      go_wp2
      go_quiet (fail)
      go_wp2
      go_roundw
      case rel => exact ⟨2, _, by go_num, by omega, rfl⟩
      case measure => simp [intOf]
    · subst e
      go_wp2
      go_ret
      exact ⟨rfl, HB0.out.trans ⟨rfl, rfl, rfl, Nat.le_refl _, fun _ _ => rfl⟩⟩
end Go.Proofs.Ytekgmdigchobbaa
