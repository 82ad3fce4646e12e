import Derived.Test.YtiialbnfgichhaaBrdA
import Derived.StillTailTactics
import Derived.Deep.RegionHeld3
namespace Go.Proofs.Ytiialbnfgichhaa
open Go.RowKit
set_option linter.unusedVariables false
set_option maxHeartbeats 2000000 in
set_option maxRecDepth 20000 in
theorem firstHop_any (d : Bd) (n : Int) (hv : JobsV n d.l) (k : Nat) (hkl : k < d.l.length) (w : World) (hB : Brd d w) :
    Calls Try.prog 119 #[.pointer (some ⟨d.B, 0, none⟩), .int .i64 (k : Int)] w fun e w' => e = .returned (.agg #[.int .i64 (firstH d.l k).jb, .int .i64 (firstH d.l k).fr, .int .i64 (firstH d.l k).bg]) ∧ Below w.heap.size w w' := by
  have HT := Lib.hid (hpB_new 89 w ⟨0, 0, 0⟩)
  have HB := Lib.hid (below_alloc w (.cells #[.int .i64 0, .int .i64 0, .int .i64 0] 89))
  have hB2 := hB.below HB.out
  have f0 := HT.out.frozen 0
  have f1 := HT.out.frozen 1
  have f2 := HT.out.frozen 2
  have e0 : (w.alloc (.cells #[.int .i64 0, .int .i64 0, .int .i64 0] 89)).cell? ⟨w.heap.size, 0, none⟩ = some (.int .i64 0) := HT.out.cell0
  have e1 : (w.alloc (.cells #[.int .i64 0, .int .i64 0, .int .i64 0] 89)).cell? ⟨w.heap.size, 1, none⟩ = some (.int .i64 0) := HT.out.cell1
  have e2 : (w.alloc (.cells #[.int .i64 0, .int .i64 0, .int .i64 0] 89)).cell? ⟨w.heap.size, 2, none⟩ = some (.int .i64 0) := HT.out.cell2
  have c3 := hB2.jc0 hkl
  have c4 := (hB2.at hkl).1
  have c5 := (hB2.at hkl).2.2.2
  have HE : Hid (firstH d.l k = ⟨k, (d.l[k]).fr, (d.l[k]).st⟩) := Lib.hid (by unfold firstH; rw [jAt_nat hkl])
  rw [HE.out]
  clear hv hB hB2 HE
  dsimp only at c3 c4 c5 ⊢
  generalize (d.l[k]).fr = fr at c4 ⊢
  generalize (d.l[k]).st = st at c5 ⊢
  have i0 : (0 : Int) ≤ (k : Int) := by omega
  have i1 : (k : Int) < (d.l.length : Int) := by omega
  have HN := Lib.hid (HT.out.set3 k fr st)
  have HB3 := Lib.hid (((HB.out.setCell (p := ⟨w.heap.size, 0, none⟩) (Nat.le_refl _) (.int .i64 k)).setCell (p := ⟨w.heap.size, 1, none⟩) (Nat.le_refl _) (.int .i64 fr)).setCell (p := ⟨w.heap.size, 2, none⟩) (Nat.le_refl _) (.int .i64 st))
  go_enter Try.func119, Try.ntmps119
  go_wp2
  have HT1 := HT.out
  clear HT
  generalize hW0 : w.alloc (.cells #[.int .i64 0, .int .i64 0, .int .i64 0] 89) = W0 at f0 f1 f2 e0 e1 e2 c3 c4 c5 HN HB3 HB ⊢
  clear hW0 HT1
  go_still_tail 18, (by kernel_rfl)
  repeat still_step
  change wpList _ _ _ _ _ W0.drew
  have z0 : W0.drew.frozen? ⟨w.heap.size, 0, none⟩ = false := f0
  have z1 : W0.drew.frozen? ⟨w.heap.size, 1, none⟩ = false := f1
  have z2 : W0.drew.frozen? ⟨w.heap.size, 2, none⟩ = false := f2
  have z3 : W0.drew.cell? ⟨w.heap.size, 0, none⟩ = some (.int .i64 0) := e0
  have z4 : W0.drew.cell? ⟨w.heap.size, 1, none⟩ = some (.int .i64 0) := e1
  have z5 : W0.drew.cell? ⟨w.heap.size, 2, none⟩ = some (.int .i64 0) := e2
  go_wp2
  refine bodyPost_ret (res_hpB rfl _ rfl HN.out) rfl ?_
  exact ⟨rfl, below_drewP 1 HB3.out⟩
end Go.Proofs.Ytiialbnfgichhaa
