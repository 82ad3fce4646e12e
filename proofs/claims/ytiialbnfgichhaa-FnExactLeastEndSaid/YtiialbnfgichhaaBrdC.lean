import Derived.Test.YtiialbnfgichhaaBrdA
import Derived.StillTailTactics
import Derived.Deep.RegionHeld3
namespace Go.Proofs.Ytiialbnfgichhaa
open Go.RowKit
set_option linter.unusedVariables false
theorem res_twoF {fn : Func} {p : Tmp} (h : fn.results = #[.cell p 103]) (tmps : Array Value) {w : World} {g : Nat} {x y : Int} (hp : tmps.getD p undef = .pointer (some ⟨g, 0, none⟩)) (hb : Two w g x y) : (results fn tmps).run Try.prog w = .ok (.agg #[.int .i64 x, .int .i64 y]) w := by
  have hp' : tmps[p]?.getD undef = .pointer (some ⟨g, 0, none⟩) := by simpa using hp
  simp [results, h, hp', asAddr, load_two hb]
theorem jOf {n : Int} {l : List Jb} (hv : JobsV n l) {k : Nat} (hk : k < l.length) : (-100 ≤ (l[k]).to ∧ (l[k]).to ≤ 100) ∧ (1 ≤ (l[k]).sp ∧ (l[k]).sp ≤ 60) := by
  have h := hv.all _ (List.getElem_mem hk)
  have := h.to0
  have := h.to1
  have := h.sp0
  have := h.sp1
  have := hv.n1
  omega
theorem cmpI_in (a b : Int) : -1 ≤ cmpI a b ∧ cmpI a b ≤ 1 := by
  unfold cmpI
  by_cases h : a < b
  · rw [if_pos h]; omega
  · rw [if_neg h]
    by_cases h2 : b < a
    · rw [if_pos h2]; omega
    · rw [if_neg h2]; omega
set_option maxHeartbeats 2000000 in
set_option maxRecDepth 20000 in
theorem stations_any (d : Bd) (n : Int) (hv : JobsV n d.l) (h : Hp) (hh : HpV d.l h) (w : World) (hB : Brd d w) :
    Calls Try.prog 84 #[.pointer (some ⟨d.B, 0, none⟩), .agg #[.int .i64 h.jb, .int .i64 h.fr, .int .i64 h.bg]] w fun e w' => e = .returned (.agg #[.int .i64 h.fr, .int .i64 (nx d.l h)]) ∧ Below w.heap.size w w' := by
  obtain ⟨k, hk, hkl⟩ := hh.nat
  obtain ⟨jb, fr, bg⟩ := h
  have b0 := hh.fr0
  have b1 := hh.fr1
  dsimp only at hk b0 b1 ⊢
  subst hk
  have hT := (hpB_new 89 w ⟨k, fr, bg⟩).below (below_alloc _ (.cells #[.int .i64 0, .int .i64 0] 103))
  have HT := Lib.hid (two_new (w.alloc (.cells #[.int .i64 (k : Int), .int .i64 fr, .int .i64 bg] 89)) 0 0)
  have es : (w.alloc (.cells #[.int .i64 (k : Int), .int .i64 fr, .int .i64 bg] 89)).heap.size = w.heap.size + 1 := by simp
  rw [es] at HT
  clear es
  have HB := Lib.hid ((below_alloc w (.cells #[.int .i64 (k : Int), .int .i64 fr, .int .i64 bg] 89)).alloc (by simp) (.cells #[.int .i64 0, .int .i64 0] 103))
  have hB2 := hB.below HB.out
  have c0 := hT.cell0
  have c2 := hT.cell1
  have c3 := hB2.jc0 hkl
  have c4 := (hB2.at hkl).2.1
  have e0 := HT.out.cell0
  have e1 := HT.out.cell1
  have f0 := HT.out.frozen 0
  have f1 := HT.out.frozen 1
  have HC := Lib.hid fun W => cmp_any (d.l[k]).to fr W
  have hci := cmpI_in (d.l[k]).to fr
  have HE : Hid (nx d.l ⟨k, fr, bg⟩ = fr + cmpI (d.l[k]).to fr) := Lib.hid (by unfold nx; rw [jAt_nat hkl])
  rw [HE.out]
  clear hv hh hB hB2 hT HE
  dsimp only at c0 c2 c3 c4 HB
  generalize cmpI (d.l[k]).to fr = y at HC hci ⊢
  generalize (d.l[k]).to = to at c4 HC ⊢
  have i0 : (0 : Int) ≤ (k : Int) := by omega
  have i1 : (k : Int) < (d.l.length : Int) := by omega
  obtain ⟨m1, m2⟩ := wrapI (x := fr + y) (by omega) (by omega)
  have HN := Lib.hid ((HT.out.set0 fr).set1 (fr + y))
  have HB3 := Lib.hid ((HB.out.setCell (p := ⟨w.heap.size + 1, 0, none⟩) (by simp) (.int .i64 fr)).setCell (p := ⟨w.heap.size + 1, 1, none⟩) (by simp) (.int .i64 (fr + y)))
  clear b0 b1 hci
  go_enter Try.func84, Try.ntmps84
  go_wp2
  generalize hW0 : (w.alloc (.cells #[.int .i64 (k : Int), .int .i64 fr, .int .i64 bg] 89)).alloc (.cells #[.int .i64 0, .int .i64 0] 103) = W0 at c0 c2 c3 c4 e0 e1 f0 f1 HN HB3 HB HT ⊢
  clear hW0
  go_still_tail 18, (by kernel_rfl)
  repeat still_step
  still_call (HC.out _)
  repeat still_step
  change wpList _ _ _ _ _ W0.drew
  have z0 : W0.drew.frozen? ⟨w.heap.size + 1, 0, none⟩ = false := f0
  have z1 : W0.drew.frozen? ⟨w.heap.size + 1, 1, none⟩ = false := f1
  have z3 : W0.drew.cell? ⟨w.heap.size + 1, 0, none⟩ = some (.int .i64 0) := e0
  have z4 : W0.drew.cell? ⟨w.heap.size + 1, 1, none⟩ = some (.int .i64 0) := e1
  clear m1 m2
  go_wp2
  refine bodyPost_ret (res_twoF rfl _ rfl HN.out) rfl ?_
  exact ⟨rfl, below_drewP 1 HB3.out⟩
end Go.Proofs.Ytiialbnfgichhaa
