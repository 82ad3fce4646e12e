/-
  BareOf, the model's, and both together. Used by the claims on chapter 2.
-/
import Derived.Test.YtekgmdigchobbaaDoorBareB
namespace Go.Proofs.YtekgmdigchobbaaDoor
open Go.RowKit
set_option linter.unusedVariables false

theorem sBareV_any (a : Option Addr) (b o c : Nat) (xs : List ByteArray) (m : ByteArray) (w : World) (h : ListIn w a b o xs) (ht : tableB xs = true) (hm : msgL xs.length (bl m) = true) :
    Calls Tryd.prog 42 #[.agg #[.slice a xs.length c], .string m] w fun e w' => e = .returned (.string (ba (bareL (xs.map bl) (bl m)))) ∧ Below w.heap.size w w' :=
  sBareL_any a b o c xs m w h (by have := msgGo_len hm; rw [bl_len] at this; omega) (fun x hx => by
    have := ((tableB_iff xs).1 ht).2.1 x hx
    simp only [marksL, Bool.and_eq_true, decide_eq_true_eq, bl_len] at this
    exact this.1.2) ((tableB_iff xs).1 ht).1.2 (msg_sign hm)

theorem sBareOf_any (a : Option Addr) (b o c : Nat) (xs : List ByteArray) (m : ByteArray) (w : World) (h : ListIn w a b o xs) (hm : m.size ≤ 1048576) :
    Calls Tryd.prog 19 #[.agg #[.slice a xs.length c], .string m] w fun e w' => e = .returned (.tuple #[.string (bareR xs m).1, .bool (bareR xs m).2]) ∧ Below w.heap.size w w' := by
  have hl := h.len
  have F := Lib.hid fun W hb => stable_any a b o c xs W (h.below (w' := W) hb)
  have HS := Lib.hid h
  clear h
  by_cases ht : tableB xs = true
  · have F2 := Lib.hid fun W hb => val_eq (v' := .bool true) (F.out W hb) (by rw [ht])
    have hn := ((tableB_iff xs).1 ht).1
    have G := Lib.hid fun W => sMsg_any a b o c xs m W hn.1 hn.2 (by unfold maxLen; omega)
    by_cases hv : msgL xs.length (bl m) = true
    · have G2 := Lib.hid fun W => val_eq (v' := .bool true) (G.out W) (by rw [hv])
      have E := Lib.hid fun W hb => sBareV_any a b o c xs m W (HS.out.below (w' := W) hb) ht hv
      have HR : Hid (bareR xs m = (ba (bareL (xs.map bl) (bl m)), true)) := Lib.hid (if_pos (validM_iff.2 ⟨ht, hv⟩))
      clear ht hn F G hv
      go_enter Tryd.func19, Tryd.ntmps19
      go_wp2_with fail
      refine (F2.out _ (below_alloc _ _)).mono ?_
      rintro e w1 ⟨rfl, hb⟩
      have hc1 : w1.cell? ⟨w.heap.size, 0, none⟩ = some (.slice a xs.length c) := (hb.cell (p := ⟨w.heap.size, 0, none⟩) (by simp)).trans (cell_new _ _ _)
      have HB := Lib.hid ((below_alloc w (.cells #[.slice a xs.length c] 26)).trans (hb.mono (by simp)))
      clear hb
      go_wp2_with fail
      refine (G2.out _).mono ?_
      rintro e w2 ⟨rfl, hb⟩
      have hc2 := (hb.cell (World.block_lt_of_cell? _ _ hc1)).trans hc1
      have HB2 := Lib.hid (HB.out.trans (hb.mono HB.out.size))
      clear hb hc1
      go_wp2_with fail
      refine (E.out _ HB2.out).mono ?_
      rintro e w3 ⟨rfl, hb⟩
      have HB3 := Lib.hid (HB2.out.trans (hb.mono HB2.out.size))
      clear hb
      go_wp2
      go_ret2
      exact ⟨by rw [HR.out]; rfl, HB3.out⟩
    · have G2 := Lib.hid fun W => val_eq (v' := .bool false) (G.out W) (by simp [hv])
      have HR : Hid (bareR xs m = (⟨#[]⟩, false)) := Lib.hid (if_neg (fun h => hv (validM_iff.1 h).2))
      clear ht hn F G hv
      go_enter Tryd.func19, Tryd.ntmps19
      go_wp2_with fail
      refine (F2.out _ (below_alloc _ _)).mono ?_
      rintro e w1 ⟨rfl, hb⟩
      have hc1 : w1.cell? ⟨w.heap.size, 0, none⟩ = some (.slice a xs.length c) := (hb.cell (p := ⟨w.heap.size, 0, none⟩) (by simp)).trans (cell_new _ _ _)
      have HB := Lib.hid ((below_alloc w (.cells #[.slice a xs.length c] 26)).trans (hb.mono (by simp)))
      clear hb
      go_wp2_with fail
      refine (G2.out _).mono ?_
      rintro e w2 ⟨rfl, hb⟩
      have HB2 := Lib.hid (HB.out.trans (hb.mono HB.out.size))
      clear hb hc1
      go_wp2
      go_ret2
      exact ⟨by rw [HR.out]; rfl, HB2.out⟩
  · have F2 := Lib.hid fun W hb => val_eq (v' := .bool false) (F.out W hb) (by simp [ht])
    have HR : Hid (bareR xs m = (⟨#[]⟩, false)) := Lib.hid (if_neg (fun h => ht (validM_iff.1 h).1))
    clear ht F
    go_enter Tryd.func19, Tryd.ntmps19
    go_wp2_with fail
    refine (F2.out _ (below_alloc _ _)).mono ?_
    rintro e w1 ⟨rfl, hb⟩
    have HB := Lib.hid ((below_alloc w (.cells #[.slice a xs.length c] 26)).trans (hb.mono (by simp)))
    clear hb
    go_wp2
    go_ret2
    exact ⟨by rw [HR.out]; rfl, HB.out⟩

theorem bareOf_both (xs : List ByteArray) (m : ByteArray) (hl : xs.length ≤ 1048576) (ht : ∀ x ∈ xs, x.size ≤ 1048576) (hm : m.size ≤ 1048576) : ∃ (R0 : ByteArray) (R1 : Bool),
    Hid (∀ W a b o c, ListIn W a b o xs → Calls Tryd.prog 19 #[.agg #[.slice a xs.length c], .string m] W fun e W' => e = .returned (.tuple #[.string R0, .bool R1]) ∧ Below W.heap.size W W') ∧
    Hid (∀ W a b o c, ListIn W a b o xs → MaxIs W → Calls Tryd.prog 18 #[.agg #[.slice a xs.length c], .string m] W fun e W' => e = .returned (.tuple #[.string R0, .bool R1]) ∧ Below W.heap.size W W') :=
  ⟨_, _, fun W a b o c h => sBareOf_any a b o c xs m W h hm, fun W a b o c h h2 => bareOf_any a b o c xs m W h hm h2⟩

end Go.Proofs.YtekgmdigchobbaaDoor
