/-
  behind of the board. Used by the claims on chapter 10.
-/
import Derived.Test.YtiialbnfgichhaaBrdB
import Derived.Test.YtiialbnfgichhaaBrdC
namespace Go.Proofs.Ytiialbnfgichhaa
open Go.RowKit
set_option linter.unusedVariables false
theorem idx1 (x y : Int) (w : World) : (Instr.index 103 (.agg #[.int .i64 x, .int .i64 y]) (.int .i64 1)).run Try.prog w = .ok (.int .i64 y) w := by
  simp [Instr.index, run_underlying, Try.underlying103, asIntOf]
  go_simp
set_option maxHeartbeats 4000000 in
set_option maxRecDepth 20000 in
theorem behind_any (d : Bd) (n : Int) (hv : JobsV n d.l) (h : Hp) (hh : HpV d.l h) (w : World) (hB : Brd d w) :
    Calls Try.prog 120 #[.pointer (some ⟨d.B, 0, none⟩), .agg #[.int .i64 h.jb, .int .i64 h.fr, .int .i64 h.bg]] w fun e w' => e = .returned (.agg #[.int .i64 h.jb, .int .i64 (nx d.l h), .int .i64 (en d.l h)]) ∧ Below w.heap.size w w' := by
  have hT := (hpB_new 89 w h).below (below_alloc _ (.cells #[.int .i64 0, .int .i64 0, .int .i64 0] 89))
  have HT := Lib.hid (hpB_new 89 (w.alloc (.cells #[.int .i64 h.jb, .int .i64 h.fr, .int .i64 h.bg] 89)) ⟨0, 0, 0⟩)
  have es : (w.alloc (.cells #[.int .i64 h.jb, .int .i64 h.fr, .int .i64 h.bg] 89)).heap.size = w.heap.size + 1 := by simp
  rw [es] at HT
  clear es
  have HB := Lib.hid ((below_alloc w (.cells #[.int .i64 h.jb, .int .i64 h.fr, .int .i64 h.bg] 89)).alloc (by simp) (.cells #[.int .i64 0, .int .i64 0, .int .i64 0] 89))
  have HS := Lib.hid fun W hb => stations_any d n hv h hh W (hB.below (W' := W) hb)
  have HE := Lib.hid fun W hb => endOf_any d n hv h hh W (hB.below (W' := W) hb)
  clear hv hh hB
  obtain ⟨jb, fr, bg⟩ := h
  dsimp only at hT HT HB HS HE ⊢
  have HI := Lib.hid fun W => idx1 fr (nx d.l ⟨jb, fr, bg⟩) W
  generalize nx d.l ⟨jb, fr, bg⟩ = x at HS HI ⊢
  generalize en d.l ⟨jb, fr, bg⟩ = y at HE ⊢
  have hI := HI.out
  go_enter Try.func120, Try.ntmps120
  go_wp2_with fail
  generalize hW0 : (w.alloc (.cells #[.int .i64 jb, .int .i64 fr, .int .i64 bg] 89)).alloc (.cells #[.int .i64 0, .int .i64 0, .int .i64 0] 89) = W0 at hT HT HB ⊢
  clear hW0
  have c0 := hT.cell0
  have c1 := hT.cell1
  have c2 := hT.cell2
  have HC := Lib.hid hT
  clear hT
  have HBd : Hid (Below W0.heap.size W0 W0.drew) := Lib.hid (Below.refl W0.heap.size W0).drew
  have HQ : Hid (∀ W, Below W0.heap.size W0 W → W.cell? ⟨w.heap.size, 0, none⟩ = some (.int .i64 jb) ∧ W.cell? ⟨w.heap.size, 1, none⟩ = some (.int .i64 fr) ∧ W.cell? ⟨w.heap.size, 2, none⟩ = some (.int .i64 bg)) := Lib.hid fun W hb => ⟨(HC.out.below hb).cell0, (HC.out.below hb).cell1, (HC.out.below hb).cell2⟩
  have HR : Hid (∀ W, Below W0.heap.size W0 W → W.frozen? ⟨w.heap.size + 1, 0, none⟩ = false ∧ W.frozen? ⟨w.heap.size + 1, 1, none⟩ = false ∧ W.frozen? ⟨w.heap.size + 1, 2, none⟩ = false ∧ W.cell? ⟨w.heap.size + 1, 0, none⟩ = some (.int .i64 0) ∧ W.cell? ⟨w.heap.size + 1, 1, none⟩ = some (.int .i64 0) ∧ W.cell? ⟨w.heap.size + 1, 2, none⟩ = some (.int .i64 0)) := Lib.hid fun W hb => ⟨(HT.out.below hb).frozen 0, (HT.out.below hb).frozen 1, (HT.out.below hb).frozen 2, (HT.out.below hb).cell0, (HT.out.below hb).cell1, (HT.out.below hb).cell2⟩
  have HO : Hid (∀ W, Below W0.heap.size W0 W → Below w.heap.size w W) := Lib.hid fun W hb => HB.out.trans (hb.mono HB.out.size)
  have HU : Hid (∀ W, Below W0.heap.size W0 W → ∀ u v z : Value, (((W.setCell ⟨w.heap.size + 1, 0, none⟩ u).setCell ⟨w.heap.size + 1, 1, none⟩ v).setCell ⟨w.heap.size + 1, 2, none⟩ z).cell? ⟨w.heap.size, 0, none⟩ = some (.int .i64 jb) ∧ (((W.setCell ⟨w.heap.size + 1, 0, none⟩ u).setCell ⟨w.heap.size + 1, 1, none⟩ v).setCell ⟨w.heap.size + 1, 2, none⟩ z).cell? ⟨w.heap.size, 1, none⟩ = some (.int .i64 fr) ∧ (((W.setCell ⟨w.heap.size + 1, 0, none⟩ u).setCell ⟨w.heap.size + 1, 1, none⟩ v).setCell ⟨w.heap.size + 1, 2, none⟩ z).cell? ⟨w.heap.size, 2, none⟩ = some (.int .i64 bg)) := Lib.hid fun W hb u v z => by
    have far : ∀ i, (((W.setCell ⟨w.heap.size + 1, 0, none⟩ u).setCell ⟨w.heap.size + 1, 1, none⟩ v).setCell ⟨w.heap.size + 1, 2, none⟩ z).cell? ⟨w.heap.size, i, none⟩ = W.cell? ⟨w.heap.size, i, none⟩ := fun i => by
      rw [World.cell?_setCell_far _ _ _ _ (by show w.heap.size + 1 ≠ w.heap.size; omega), World.cell?_setCell_far _ _ _ _ (by show w.heap.size + 1 ≠ w.heap.size; omega), World.cell?_setCell_far _ _ _ _ (by show w.heap.size + 1 ≠ w.heap.size; omega)]
    rw [far, far, far]
    exact HQ.out W hb
  go_region_held3 (fun w' => w'.cell? ⟨w.heap.size, 0, none⟩ = some (.int .i64 jb) ∧ w'.cell? ⟨w.heap.size, 1, none⟩ = some (.int .i64 fr) ∧ w'.cell? ⟨w.heap.size, 2, none⟩ = some (.int .i64 bg))
    (first
      | with_reducible exact HU.out _ HBs.out _ _ _
      | with_reducible exact HU.out _ HBe.out _ _ _
      | with_reducible exact HQ.out _ HBs.out
      | with_reducible exact HQ.out _ HBe.out
      | with_reducible exact HQ.out _ HBd.out)
    ((first
      | (go_at_call 84; refine (HS.out _ (by first | with_reducible exact HO.out _ HBe.out | with_reducible exact HO.out _ HBd.out)).mono ?_; rintro e w2 ⟨rfl, hb⟩; have HBs : Hid (Below W0.heap.size W0 w2) := Lib.hid (by first | with_reducible exact HBe.out.trans (hb.mono HBe.out.size) | with_reducible exact HBd.out.trans (hb.mono HBd.out.size)); clear hb; (try (obtain ⟨f0, f1, f2, e0, e1, e2⟩ := HR.out _ HBs.out)))
      | (go_at_call 94; refine (HE.out _ (by first | with_reducible exact HO.out _ HBs.out | with_reducible exact HO.out _ HBd.out)).mono ?_; rintro e w3 ⟨rfl, hb⟩; have HBe : Hid (Below W0.heap.size W0 w3) := Lib.hid (by first | with_reducible exact HBs.out.trans (hb.mono HBs.out.size) | with_reducible exact HBd.out.trans (hb.mono HBd.out.size)); clear hb; (try (obtain ⟨f0, f1, f2, e0, e1, e2⟩ := HR.out _ HBe.out)))
      | fail))
  all_goals (
    go_wp2
    first
      | exact bodyPost_ret (res_hpB rfl _ rfl ((HT.out.below HBe.out).set3 _ _ _)) rfl ⟨rfl, (((HO.out _ HBe.out).setCell (p := ⟨w.heap.size + 1, 0, none⟩) (by simp) _).setCell (p := ⟨w.heap.size + 1, 1, none⟩) (by simp) _).setCell (p := ⟨w.heap.size + 1, 2, none⟩) (by simp) _⟩
      | exact bodyPost_ret (res_hpB rfl _ rfl ((HT.out.below HBs.out).set3 _ _ _)) rfl ⟨rfl, (((HO.out _ HBs.out).setCell (p := ⟨w.heap.size + 1, 0, none⟩) (by simp) _).setCell (p := ⟨w.heap.size + 1, 1, none⟩) (by simp) _).setCell (p := ⟨w.heap.size + 1, 2, none⟩) (by simp) _⟩)
end Go.Proofs.Ytiialbnfgichhaa
