/-
  doMeet of the board. Used by the claims on chapter 10.
-/
import Derived.Test.YtiialbnfgichhaaBrdD
import Derived.Test.YtiialbnfgichhaaCnI
namespace Go.Proofs.Ytiialbnfgichhaa
open Go.RowKit
set_option linter.unusedVariables false
theorem idx0 (x y : Int) (w : World) : (Instr.index 103 (.agg #[.int .i64 x, .int .i64 y]) (.int .i64 0)).run Try.prog w = .ok (.int .i64 x) w := by
  simp [Instr.index, run_underlying, Try.underlying103, asIntOf]
  go_simp
theorem two_src {W : World} {g : Nat} {x y : Int} (h : Two W g x y) : SrcV W (some ⟨g, 0, none⟩) g (intz [x, y]) := ⟨fun _ => rfl, fun j v hv => by
  match j, hv with
  | 0, hv => rw [h.cell0]; exact hv
  | 1, hv => rw [h.cell1]; exact hv⟩
theorem meet_eq (l : List Jb) (a b : Hp) : meet l a b = (decide (a.fr ∈ [b.fr, nx l b]) || decide (nx l a ∈ [b.fr, nx l b])) := by
  unfold meet
  rw [Bool.eq_iff_iff]
  simp [or_assoc]

set_option maxHeartbeats 4000000 in
set_option maxRecDepth 8000 in
theorem doMeet_any (d : Bd) (n : Int) (hv : JobsV n d.l) (h o : Hp) (hh : HpV d.l h) (ho : HpV d.l o) (w : World) (hB : Brd d w) :
    Calls Try.prog 170 #[.pointer (some ⟨d.B, 0, none⟩), .agg #[.int .i64 h.jb, .int .i64 h.fr, .int .i64 h.bg], .agg #[.int .i64 o.jb, .int .i64 o.fr, .int .i64 o.bg]] w fun e w' => e = .returned (.bool (meet d.l h o)) ∧ Below w.heap.size w w' := by
  have HB := Lib.hid ((below_alloc w (.cells #[.int .i64 h.jb, .int .i64 h.fr, .int .i64 h.bg] 89)).alloc (by simp) (.cells #[.int .i64 o.jb, .int .i64 o.fr, .int .i64 o.bg] 89))
  have hT1 := (hpB_new 89 w h).below (below_alloc _ (.cells #[.int .i64 o.jb, .int .i64 o.fr, .int .i64 o.bg] 89))
  have hT2 := hpB_new 89 (w.alloc (.cells #[.int .i64 h.jb, .int .i64 h.fr, .int .i64 h.bg] 89)) o
  have es : (w.alloc (.cells #[.int .i64 h.jb, .int .i64 h.fr, .int .i64 h.bg] 89)).heap.size = w.heap.size + 1 := by simp
  rw [es] at hT2
  clear es
  have HS1 := Lib.hid fun W hb => stations_any d n hv h hh W (hB.below (W' := W) hb)
  have HS2 := Lib.hid fun W hb => stations_any d n hv o ho W (hB.below (W' := W) hb)
  have HC0 := Lib.hid fun g c W (hs : SrcV W (some ⟨g, 0, none⟩) g (intz [o.fr, nx d.l o])) => containsI_any _ g c [o.fr, nx d.l o] h.fr W hs (by simp)
  have HC1 := Lib.hid fun g c W (hs : SrcV W (some ⟨g, 0, none⟩) g (intz [o.fr, nx d.l o])) => containsI_any _ g c [o.fr, nx d.l o] (nx d.l h) W hs (by simp)
  rw [meet_eq]
  generalize decide (h.fr ∈ [o.fr, nx d.l o]) = b0 at HC0 ⊢
  generalize decide (nx d.l h ∈ [o.fr, nx d.l o]) = b1 at HC1 ⊢
  clear hv hh ho hB
  go_enter Try.func170, Try.ntmps170
  go_wp2_with fail
  generalize hW0 : (w.alloc (.cells #[.int .i64 h.jb, .int .i64 h.fr, .int .i64 h.bg] 89)).alloc (.cells #[.int .i64 o.jb, .int .i64 o.fr, .int .i64 o.bg] 89) = W0 at hT1 hT2 HB ⊢
  clear hW0
  have H1 := Lib.hid hT1
  have c0 := hT2.cell0
  have c1 := hT2.cell1
  have c2 := hT2.cell2
  clear hT1 hT2
  go_wp2_with fail
  refine (HS2.out _ HB.out).mono ?_
  rintro e w1 ⟨rfl, hb⟩
  have HB1 := Lib.hid (HB.out.trans (hb.mono HB.out.size))
  have H11 := Lib.hid (H1.out.below hb)
  clear hb c0 c1 c2
  have HT := Lib.hid (two_new w1 o.fr (nx d.l o))
  have HB2 := Lib.hid (HB1.out.alloc HB1.out.size (.cells #[.int .i64 o.fr, .int .i64 (nx d.l o)] 103))
  have hT3 := H11.out.below (below_alloc w1 (.cells #[.int .i64 o.fr, .int .i64 (nx d.l o)] 103))
  have c0 := hT3.cell0
  have c1 := hT3.cell1
  have c2 := hT3.cell2
  clear hT3
  go_wp2_with fail
  generalize w1.heap.size = g at HT ⊢
  generalize w1.alloc (.cells #[.int .i64 o.fr, .int .i64 (nx d.l o)] 103) = W1 at HT HB2 c0 c1 c2 ⊢
  refine (HS1.out _ HB2.out).mono ?_
  rintro e w2 ⟨rfl, hb⟩
  have HB3 := Lib.hid (HB2.out.trans (hb.mono HB2.out.size))
  have HT2 := Lib.hid (HT.out.below hb)
  clear hb c0 c1 c2
  have hI0 := idx0 h.fr (nx d.l h) w2
  have hI1 := idx1 h.fr (nx d.l h) w2
  clear HS1 HS2
  go_wp2_with fail
  go_loopw [16] (fun v wr => ((v = .int .i64 0) ∨ (v = .int .i64 1 ∧ b0 = false) ∨ (v = .int .i64 2 ∧ b0 = false ∧ b1 = false)) ∧ wr = w2) (fun v _ => 2 - (intOf v).toNat)
  case atStart => exact ⟨Or.inl rfl, rfl⟩
  case round =>
    obtain ⟨hrel, hwr⟩ := hrel
    subst hwr
    rcases hrel with rfl | ⟨rfl, rfl⟩ | ⟨rfl, rfl, rfl⟩
    · cases b0 with
      | true =>
        go_wp2_with fail
        refine (HC0.out g 2 _ (two_src HT2.out)).mono ?_
        rintro e w3 ⟨rfl, hww⟩
        obtain rfl := hww.symm
        go_wp2
        go_ret
        exact ⟨rfl, HB3.out⟩
      | false =>
        go_wp2_with fail
        refine (HC0.out g 2 _ (two_src HT2.out)).mono ?_
        rintro e w3 ⟨rfl, hww⟩
        obtain rfl := hww.symm
        go_wp2
        go_roundw
        case rel => exact ⟨by simp, by trivial⟩
        case measure => simp [intOf]
    · cases b1 with
      | true =>
        go_wp2_with fail
        refine (HC1.out g 2 _ (two_src HT2.out)).mono ?_
        rintro e w3 ⟨rfl, hww⟩
        obtain rfl := hww.symm
        go_wp2
        go_ret
        exact ⟨rfl, HB3.out⟩
      | false =>
        go_wp2_with fail
        refine (HC1.out g 2 _ (two_src HT2.out)).mono ?_
        rintro e w3 ⟨rfl, hww⟩
        obtain rfl := hww.symm
        go_wp2
        go_roundw
        case rel => exact ⟨by simp, by trivial⟩
        case measure => simp [intOf]
    · go_wp2
      go_ret
      exact ⟨rfl, HB3.out⟩
end Go.Proofs.Ytiialbnfgichhaa
