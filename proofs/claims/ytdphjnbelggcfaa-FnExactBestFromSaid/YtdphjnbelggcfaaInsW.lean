/-
  insertionSort_func over isBefore: the texts are sorted in place. Used by the claims on chapter 8.
-/
import Derived.Test.YtdphjnbelggcfaaSrtW
namespace Go.Proofs.Ytdphjnbelggcfaa
open Go.RowKit
set_option linter.unusedVariables false

/-- A row of texts while it is being sorted. -/
structure SrtM (w wr : World) (B n : Nat) (ys0 ys : List ByteArray) : Prop where
  row : RowO wr B ys
  len : ys.length = n
  grown : w.grownBy wr (some B)
  same : ∀ x, x ∈ ys ↔ x ∈ ys0
  dif : DifB ys
theorem grown_belowI {a b c : World} {g : Nat} (h : a.grownBy b (some g)) (k : Below b.heap.size b c) : a.grownBy c (some g) := grown_trans_some h (grown_of_below k)
theorem SrtM.below {w wr wr' : World} {B n : Nat} {ys0 ys : List ByteArray} (h : SrtM w wr B n ys0 ys) (hb : Below wr.heap.size wr wr') : SrtM w wr' B n ys0 ys :=
  ⟨h.row.below hb, h.len, grown_belowI h.grown hb, h.same, h.dif⟩
theorem SrtM.sw {w wr : World} {B n : Nat} {ys0 ys : List ByteArray} (h : SrtM w wr B n ys0 ys) {i j : Nat} (hi : i < n) (hj : j < n) :
    SrtM w ((wr.setCell ⟨B, i, none⟩ (.string (gB ys j))).setCell ⟨B, j, none⟩ (.string (gB ys i))) B n ys0 (sw2 ys i j) := by
  have hl := h.len
  exact ⟨h.row.sw (by omega) (by omega), by rw [sw2_len]; exact hl, grown_trans_some (grown_trans_some h.grown (grown_set i _)) (grown_set j _), fun x => (sw2_same (by omega) (by omega) x).trans (h.same x), sw2_dif (by omega) (by omega) h.dif⟩
theorem SrtM.cell {w wr : World} {B n : Nat} {ys0 ys : List ByteArray} (h : SrtM w wr B n ys0 ys) {X k : Nat} {v : Value} (hc : w.cell? ⟨X, k, none⟩ = some v) (hne : X ≠ B) : wr.cell? ⟨X, k, none⟩ = some v :=
  (World.cell?_of_block (w := w) (a := ⟨X, k, none⟩) (h.grown.block X (World.block_lt_of_cell? _ _ hc) (fun e => hne (by injection e)))).trans hc
theorem SrtM.mk' {w wr : World} {B n : Nat} {ys0 ys : List ByteArray} (h : SrtM w wr B n ys0 ys) (hm : ∀ y ∈ ys0, marksL (bl y) = true) : ∀ y ∈ ys, marksL (bl y) = true := fun y hy => hm y ((h.same y).1 hy)
/-- What is asked of the exchange of two elements. -/
def SwapT (sf : Nat) (sb : Array Value) (B n : Nat) : Prop := ∀ (W : World) (ys : List ByteArray) (i j : Nat), RowO W B ys → ys.length = n → i < n → j < n → i ≠ j →
  (callFunc sf (#[.int .i64 i, .int .i64 j] ++ sb)).run Try.prog W = .ok (.value (.tuple #[])) ((W.setCell ⟨B, i, none⟩ (.string (gB ys j))).setCell ⟨B, j, none⟩ (.string (gB ys i)))

set_option maxHeartbeats 4000000 in
set_option maxRecDepth 20000 in
theorem insSort_any (X B n cap sf : Nat) (sb : Array Value) (ys : List ByteArray) (w : World) (hX : w.cell? ⟨X, 0, none⟩ = some (.slice (some ⟨B, 0, none⟩) n cap)) (hXB : X ≠ B) (hr : RowO w B ys) (hl : ys.length = n) (hmk : ∀ y ∈ ys, marksL (bl y) = true) (hd : DifB ys) (hn : n ≤ 1000) (hsw : SwapT sf sb B n) :
    Calls Try.prog 204 #[.agg #[.func (.func 154) #[] #[.pointer (some ⟨X, 0, none⟩)], .func (.func sf) #[] sb], .int .i64 0, .int .i64 n] w fun e w' => e = .returned (.tuple #[]) ∧ ∃ ys', SrtM w w' B n ys ys' ∧ SrtB ys' := by
  have HM0 : Hid (SrtM w (w.alloc (.cells #[.func (.func 154) #[] #[.pointer (some ⟨X, 0, none⟩)], .func (.func sf) #[] sb] 167)) B n ys ys) := Lib.hid
    ⟨hr.below (below_alloc _ _), hl, grown_of_below (below_alloc _ _), fun x => Iff.rfl, hd⟩
  have HX := Lib.hid hX
  have HMk := Lib.hid hmk
  have HNe := Lib.hid hXB
  have HBlt := Lib.hid hr.lt
  have HSw := Lib.hid hsw
  have HBox : Hid (∀ wr, (w.alloc (.cells #[.func (.func 154) #[] #[.pointer (some ⟨X, 0, none⟩)], .func (.func sf) #[] sb] 167)).grownBy wr (some B) → wr.cell? ⟨w.heap.size, 0, none⟩ = some (.func (.func 154) #[] #[.pointer (some ⟨X, 0, none⟩)]) ∧ wr.cell? ⟨w.heap.size, 1, none⟩ = some (.func (.func sf) #[] sb)) := Lib.hid fun wr hg => by
    have e := hg.block w.heap.size (by simp) (fun e => by injection e with e; have := hr.lt; omega)
    have e2 := heap_alloc_new w (.cells #[.func (.func 154) #[] #[.pointer (some ⟨X, 0, none⟩)], .func (.func sf) #[] sb] 167)
    rw [e2] at e
    exact ⟨by unfold World.cell?; rw [e]; rfl, by unfold World.cell?; rw [e]; rfl⟩
  have HG0 : Hid ((w.alloc (.cells #[.func (.func 154) #[] #[.pointer (some ⟨X, 0, none⟩)], .func (.func sf) #[] sb] 167)).grownBy (w.alloc (.cells #[.func (.func 154) #[] #[.pointer (some ⟨X, 0, none⟩)], .func (.func sf) #[] sb] 167)) (some B)) := Lib.hid (grown_of_below (Below.refl _ _))
  obtain ⟨W0, hW0⟩ : ∃ W0, W0 = w.alloc (.cells #[.func (.func 154) #[] #[.pointer (some ⟨X, 0, none⟩)], .func (.func sf) #[] sb] 167) := ⟨_, rfl⟩
  rw [← hW0] at HBox HG0
  have HW0 := Lib.hid hW0
  clear hX hXB hr hl hmk hd hsw hW0
  go_enter Try.func204, Try.ntmps204
  go_wp2
  go_loopw [6] (fun v wr => ∃ (i : Nat) (zs : List ByteArray), v = .int .i64 i ∧ 1 ≤ i ∧ (i ≤ n ∨ i = 1) ∧ Hid (SrtM w wr B n ys zs) ∧ Hid (SrtI zs i) ∧ Hid (W0.grownBy wr (some B))) (fun v _ => n + 1 - (intOf v).toNat)
  case atStart => exact ⟨1, ys, by go_num, Nat.le_refl _, .inr rfl, HM0, Lib.hid (fun p q h1 h2 => by omega), Lib.hid (by rw [← HW0.out]; exact HG0.out)⟩
  case round =>
    obtain ⟨i, zs, rfl, hi1, hin, HM, HS, HG⟩ := hrel
    by_cases hlt : i < n
    · have HI0 := Lib.hid (insI_start HS.out)
      have ht : (i : Int) < (n : Int) := by omega
      go_wp2
      go_loopw [7] (fun v wr2 => ∃ (j : Nat) (zs : List ByteArray), v = .int .i64 j ∧ j ≤ i ∧ Hid (SrtM w wr2 B n ys zs) ∧ Hid (InsI zs i j) ∧ Hid (W0.grownBy wr2 (some B))) (fun v _ => (intOf v).toNat)
      case atStart => exact ⟨i, zs, rfl, Nat.le_refl _, HM, HI0, HG⟩
      case round =>
        clear HM HS HG HI0
        obtain ⟨j, zs, rfl, hji, HM, HI, HG⟩ := hrel
        cases j with
        | zero =>
          have HS := Lib.hid (insI_stop HI.out HM.out.dif (Nat.zero_le _) (by have := HM.out.len; omega) (.inl rfl))
          go_wp2
          go_roundw
          case rel => exact ⟨i + 1, zs, by go_num, by omega, by omega, HM, HS, HG⟩
          case measure => simp [intOf]; omega
        | succ p =>
          have c0 := (HBox.out wr HG.out).1
          have c1 := (HBox.out wr HG.out).2
          have hl := less_any X B cap zs (p + 1) p n wr HM.out.len.symm (HM.out.cell HX.out HNe.out) HM.out.row (HM.out.mk' HMk.out) (by omega) (by omega)
          have ep : ((p + 1 : Nat) : Int) = (p : Int) + 1 := by omega
          rw [ep] at hl ⊢
          have hpi : p + 1 ≤ i := hji
          have hpn : p + 1 < n := by omega
          cases hb : befL (bl (gB zs (p + 1))) (bl (gB zs p))
          · rw [hb] at hl
            have HL := Lib.hid hl
            have HS := Lib.hid (insI_stop HI.out HM.out.dif hji (by have := HM.out.len; omega) (.inr hb))
            have g1 : (0 : Int) < (p : Int) + 1 := by omega
            clear hl hb ep
            go_wp2_with fail
            refine HL.out.mono ?_
            rintro e w2 ⟨rfl, hb2⟩
            have HM2 := Lib.hid (HM.out.below hb2)
            have HG2 := Lib.hid (grown_belowI HG.out hb2)
            clear hb2 c0 c1
            go_wp2
            go_roundw
            case rel => exact ⟨i + 1, zs, by go_num, by omega, by omega, HM2, HS, HG2⟩
            case measure => simp [intOf]; omega
          · rw [hb] at hl
            have HL := Lib.hid hl
            have ep2 := ep
            have HI2 := Lib.hid (insI_step HI.out (Nat.succ_pos p) hji (by have := HM.out.len; omega) hb)
            have g1 : (0 : Int) < (p : Int) + 1 := by omega
            clear hl hb ep
            go_wp2_with fail
            refine HL.out.mono ?_
            rintro e w2 ⟨rfl, hb2⟩
            have HM2 := Lib.hid (HM.out.below hb2)
            have HG2 := Lib.hid (grown_belowI HG.out hb2)
            have c0b := (HBox.out w2 HG2.out).1
            have c1b := (HBox.out w2 HG2.out).2
            clear hb2 c0 c1
            go_wp2
            have hs := HSw.out w2 zs (p + 1) p HM2.out.row HM2.out.len hpn (by omega) (by omega)
            rw [ep2] at hs
            rw [hs, Oper.upon_value]
            have HM3 := Lib.hid (HM2.out.sw hpn (show p < n by omega))
            have HG3 := Lib.hid (grown_trans_some (grown_trans_some HG2.out (grown_set (p + 1) (.string (gB zs p)))) (grown_set p (.string (gB zs (p + 1)))))
            clear hs
            go_wp2
            go_roundw
            case rel => exact ⟨p, sw2 zs (p + 1) p, by go_num, by omega, HM3, HI2, HG3⟩
            case measure => simp [intOf]
    · have HF : Hid (SrtB zs) := Lib.hid (srtB_of (fun p q h1 h2 => HS.out p q h1 (by have := HM.out.len; omega)))
      have ht : ¬ (i : Int) < (n : Int) := by omega
      go_wp2
      go_end0
      exact ⟨rfl, zs, HM.out, HF.out⟩
end Go.Proofs.Ytdphjnbelggcfaa
