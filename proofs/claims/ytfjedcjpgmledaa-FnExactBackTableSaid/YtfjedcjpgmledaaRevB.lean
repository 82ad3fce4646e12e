/-
  Contract of slices.Reverse of bytes, on a row of the caller's own. Used by the claims on chapter 2.
-/
import Derived.Test.YtfjedcjpgmledaaOppI
import Derived.Laws.OwnMore
namespace Go.Proofs.Ytfjedcjpgmledaa
open Go.RowKit
set_option linter.unusedVariables false

theorem rev_step {m l : Bs} {i j : Nat} (hl : l.length = m.length) (hij : i + j + 1 = m.length) (hlt : i < j) (h : ∀ t, t < m.length → l[t]? = if t < i ∨ j < t then m[m.length - 1 - t]? else m[t]?) (x y : UInt8) (hx : l[i]? = some x) (hy : l[j]? = some y) :
    ∀ t, t < m.length → ((l.set i y).set j x)[t]? = if t < i + 1 ∨ j - 1 < t then m[m.length - 1 - t]? else m[t]? := by
  intro t ht
  have hi := h i (by omega)
  have hj := h j (by omega)
  rw [if_neg (by omega)] at hi hj
  rw [List.getElem?_set]
  by_cases e1 : j = t
  · subst e1
    rw [if_pos rfl, if_pos (by simp; omega), if_pos (by omega), show m.length - 1 - j = i by omega, ← hi, hx]
  · rw [if_neg e1, List.getElem?_set]
    by_cases e2 : i = t
    · subst e2
      rw [if_pos rfl, if_pos (by omega), if_pos (by omega), show m.length - 1 - i = j by omega, ← hj, hy]
    · rw [if_neg e2, h t ht]
      by_cases e3 : t < i ∨ j < t
      · rw [if_pos e3, if_pos (by omega)]
      · rw [if_neg e3, if_neg (by omega)]
theorem rev_end {m l : Bs} {i j : Nat} (hl : l.length = m.length) (hij : i + j + 1 = m.length) (h1 : i ≤ j + 1) (h2 : j ≤ i) (h : ∀ t, t < m.length → l[t]? = if t < i ∨ j < t then m[m.length - 1 - t]? else m[t]?) : l = m.reverse := by
  apply List.ext_getElem?
  intro t
  by_cases ht : t < m.length
  · rw [h t ht, List.getElem?_reverse ht]
    by_cases e3 : t < i ∨ j < t
    · rw [if_pos e3]
    · rw [if_neg e3, show m.length - 1 - t = t by omega]
  · rw [List.getElem?_eq_none (by omega), List.getElem?_eq_none (by simp; omega)]

theorem grownBy_set2 (W : World) (b j : Nat) (v : Value) : W.grownBy (W.setCell ⟨b, j, none⟩ v) (some b) :=
  ⟨rfl, rfl, rfl, by simp [World.setCell], fun k _ hne => by simp [World.setCell, Array.getElem?_modify, show b ≠ k from fun e => hne (by rw [e])]⟩
/-- A row of bytes that may be written. -/
def ByR (w : World) (g : Nat) (l : Bs) : Prop := (∀ t c, l[t]? = some c → w.cell? ⟨g, t, none⟩ = some (.int .u8 (c.toNat : Int))) ∧ (∀ t, w.frozen? ⟨g, t, none⟩ = true → l.length ≤ t)
theorem ByR.drew {w : World} {g : Nat} {l : Bs} (h : ByR w g l) : ByR w.drew g l := h
theorem ByR.free {w : World} {g : Nat} {l : Bs} (h : ByR w g l) {t : Nat} (ht : t < l.length) : w.frozen? ⟨g, t, none⟩ = false := by
  rw [Bool.eq_false_iff]; intro e; have := h.2 t e; omega
theorem ByR.set {w : World} {g : Nat} {l : Bs} (h : ByR w g l) {j : Nat} (hj : j < l.length) (x : UInt8) : ByR (w.setCell ⟨g, j, none⟩ (.int .u8 (x.toNat : Int))) g (l.set j x) := by
  refine ⟨fun t c hc => ?_, fun t ht => ?_⟩
  · by_cases e : j = t
    · subst e
      rw [List.getElem?_set, if_pos rfl, if_pos hj] at hc
      cases hc
      have := h.1 j _ (List.getElem?_eq_getElem hj)
      exact World.cell?_setCell_same _ _ _ (h.1 j _ (List.getElem?_eq_getElem hj))
    · rw [List.getElem?_set, if_neg e] at hc
      rw [World.cell?_setCell_other _ _ _ _ (by intro q; have q2 := congrArg Addr.off q; exact e q2)]
      exact h.1 t c hc
  · rw [World.frozen?_setCell] at ht
    simpa using h.2 t ht

set_option maxHeartbeats 4000000 in
theorem reverse_any (g cap : Nat) (m : Bs) (w : World) (h0 : 0 < m.length) (h5 : m.length ≤ 1048576) (hown : ByR w g m) :
    Calls Try.prog 66 #[.slice (some ⟨g, 0, none⟩) m.length cap] w fun e w' => (∃ v, e = .returned v) ∧ ByR w' g m.reverse ∧ w.grownBy w' (some g) := by
  have HO := Lib.hid hown
  have d1 : ((m.length : Int) - 1) = ((m.length - 1 : Nat) : Int) := by omega
  clear hown
  go_enter Try.func66, Try.ntmps66
  go_wp2
  go_loopw [2, 3] (fun v u wr => ∃ (i j : Nat) (l : Bs), v = .int .i64 i ∧ u = .int .i64 j ∧ i + j + 1 = m.length ∧ i ≤ j + 1 ∧ Hid (l.length = m.length) ∧ Hid (∀ t, t < m.length → l[t]? = if t < i ∨ j < t then m[m.length - 1 - t]? else m[t]?) ∧ Hid (ByR wr g l) ∧ Hid (w.grownBy wr (some g))) (fun _ u _ => (intOf u).toNat)
  case atStart => exact ⟨0, m.length - 1, m, rfl, by go_num, by omega, by omega, Lib.hid rfl, Lib.hid (fun t ht => by rw [if_neg (by omega)]), HO, Lib.hid (World.grownBy.refl _ _)⟩
  case round =>
    obtain ⟨i, j, l, rfl, rfl, hij, h1, HL, HI, HR, HG⟩ := hrel
    by_cases hlt : i < j
    · have hil : i < l.length := by rw [HL.out]; omega
      have hjl : j < l.length := by rw [HL.out]; omega
      have HX := Lib.hid (List.getElem?_eq_getElem hil)
      have HY := Lib.hid (List.getElem?_eq_getElem hjl)
      generalize l[i] = x at HX
      generalize l[j] = y at HY
      have hci := HR.out.1 i x HX.out
      have hcj := HR.out.1 j y HY.out
      have hfi := HR.out.free hil
      have hfj := HR.out.free hjl
      have R2 := HR.out.set hil y
      have hjl2 : j < (l.set i y).length := by simpa using hjl
      have hu := R2.1 j y (by rw [List.getElem?_set, if_neg (by omega)]; exact HY.out)
      have hfj3 := R2.free hjl2
      have R3 := R2.set hjl2 x
      have hgs := grownBy_set2 wr g i (.int .u8 (y.toNat : Int))
      have hgs2 := grownBy_set2 (wr.setCell ⟨g, i, none⟩ (.int .u8 (y.toNat : Int))) g j (.int .u8 (x.toNat : Int))
      have HQ := Lib.hid (And.intro R3 ((HG.out.trans hgs).trans hgs2))
      have HI2 := Lib.hid (rev_step HL.out hij hlt HI.out x y HX.out HY.out)
      have i0' : (0 : Int) ≤ (i : Int) := by omega
      have i1' : (i : Int) < (m.length : Int) := by omega
      have j0' : (0 : Int) ≤ (j : Int) := by omega
      have j1' : (j : Int) < (m.length : Int) := by omega
      clear hgs hgs2 HX HY R2 R3
      go_wp2_with fail
      go_region
      all_goals (
        go_wp2
        go_roundw
        case rel => exact ⟨i + 1, j - 1, (l.set i y).set j x, by go_num, by go_num, by omega, by omega, Lib.hid (by simp [HL.out]), HI2, Lib.hid HQ.out.1.drew, Lib.hid ⟨HQ.out.2.os, HQ.out.2.tape, HQ.out.2.output, HQ.out.2.size, HQ.out.2.block⟩⟩
        case measure => simp [intOf]; omega)
    · have HE := Lib.hid (rev_end HL.out hij h1 (by omega) HI.out)
      go_wp2
      go_end0
      exact ⟨⟨_, rfl⟩, by rw [← HE.out]; exact HR.out, HG.out⟩
end Go.Proofs.Ytfjedcjpgmledaa
