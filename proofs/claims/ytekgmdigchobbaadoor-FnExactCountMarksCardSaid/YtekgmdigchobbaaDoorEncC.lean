/-
  EncodeMessage and TimeOfMessage, the model's, and both together. Used by the claims on chapter 2.
-/
import Derived.Test.YtekgmdigchobbaaDoorEncB
namespace Go.Proofs.YtekgmdigchobbaaDoor
open Go.RowKit
set_option linter.unusedVariables false

theorem sEncode_any (a : Option Addr) (b o c : Nat) (xs : List ByteArray) (m : ByteArray) (w : World) (h : ListIn w a b o xs) (hm : m.size ≤ 1048576) :
    Calls Tryd.prog 11 #[.agg #[.slice a xs.length c], .string m] w fun e w' => e = .returned (.tuple #[.string (encR xs m).1, .bool (encR xs m).2]) ∧ Below w.heap.size w w' := by
  have hl := h.len
  have F := Lib.hid fun W hb => stable_any a b o c xs W (h.below (w' := W) hb)
  have HS := Lib.hid h
  clear h
  by_cases ht : tableB xs = true
  · have F2 := Lib.hid fun W hb => val_eq (v' := .bool true) (F.out W hb) (by rw [ht])
    have hn := ((tableB_iff xs).1 ht).1
    have G := Lib.hid fun W => sMsg_any a b o c xs m W hn.1 hn.2 (by unfold maxLen; omega)
    by_cases hv : msgL xs.length (bl m) = true
    · have G2 := Lib.hid fun W => val_eq (v' := .bool true) (G.out W) (by rw [hv])
      have E := Lib.hid fun W hb => sEnc_any a b o c xs m W (HS.out.below (w' := W) hb) ht hv
      have HR : Hid (encR xs m = (ba (encL (xs.map bl) (bl m)), true)) := Lib.hid (if_pos (validM_iff.2 ⟨ht, hv⟩))
      clear ht hn F G hv
      go_enter Tryd.func11, Tryd.ntmps11
      go_wp2_with fail
      refine (F2.out _ (below_alloc _ _)).mono ?_
      rintro e w1 ⟨rfl, hb⟩
      have hc1 : w1.cell? ⟨w.heap.size, 0, none⟩ = some (.slice a xs.length c) := (hb.cell (p := ⟨w.heap.size, 0, none⟩) (by simp)).trans (cell_new _ _ _)
      have HB := Lib.hid ((below_alloc w (.cells #[.slice a xs.length c] 26)).trans (hb.mono (by simp)))
      clear hb
      go_wp2_with fail
      refine (G2.out _).mono ?_
      rintro e w2 ⟨rfl, hb⟩
      have hc2 := (hb.cell (World.block_lt_of_cell? _ _ hc1)).trans hc1
      have HB2 := Lib.hid (HB.out.trans (hb.mono HB.out.size))
      clear hb hc1
      go_wp2_with fail
      refine (E.out _ HB2.out).mono ?_
      rintro e w3 ⟨rfl, hb⟩
      have HB3 := Lib.hid (HB2.out.trans (hb.mono HB2.out.size))
      clear hb
      go_wp2
      go_ret2
      exact ⟨by rw [HR.out]; rfl, HB3.out⟩
    · have G2 := Lib.hid fun W => val_eq (v' := .bool false) (G.out W) (by simp [hv])
      have HR : Hid (encR xs m = (⟨#[]⟩, false)) := Lib.hid (if_neg (fun h => hv (validM_iff.1 h).2))
      clear ht hn F G hv
      go_enter Tryd.func11, Tryd.ntmps11
      go_wp2_with fail
      refine (F2.out _ (below_alloc _ _)).mono ?_
      rintro e w1 ⟨rfl, hb⟩
      have hc1 : w1.cell? ⟨w.heap.size, 0, none⟩ = some (.slice a xs.length c) := (hb.cell (p := ⟨w.heap.size, 0, none⟩) (by simp)).trans (cell_new _ _ _)
      have HB := Lib.hid ((below_alloc w (.cells #[.slice a xs.length c] 26)).trans (hb.mono (by simp)))
      clear hb
      go_wp2_with fail
      refine (G2.out _).mono ?_
      rintro e w2 ⟨rfl, hb⟩
      have HB2 := Lib.hid (HB.out.trans (hb.mono HB.out.size))
      clear hb hc1
      go_wp2
      go_ret2
      exact ⟨by rw [HR.out]; rfl, HB2.out⟩
  · have F2 := Lib.hid fun W hb => val_eq (v' := .bool false) (F.out W hb) (by simp [ht])
    have HR : Hid (encR xs m = (⟨#[]⟩, false)) := Lib.hid (if_neg (fun h => ht (validM_iff.1 h).1))
    clear ht F
    go_enter Tryd.func11, Tryd.ntmps11
    go_wp2_with fail
    refine (F2.out _ (below_alloc _ _)).mono ?_
    rintro e w1 ⟨rfl, hb⟩
    have HB := Lib.hid ((below_alloc w (.cells #[.slice a xs.length c] 26)).trans (hb.mono (by simp)))
    clear hb
    go_wp2
    go_ret2
    exact ⟨by rw [HR.out]; rfl, HB.out⟩

theorem encodeMessage_both (xs : List ByteArray) (m : ByteArray) (hl : xs.length ≤ 1048576) (ht : ∀ x ∈ xs, x.size ≤ 1048576) (hm : m.size ≤ 1048576) : ∃ (R0 : ByteArray) (R1 : Bool),
    Hid (∀ W a b o c, ListIn W a b o xs → Calls Tryd.prog 11 #[.agg #[.slice a xs.length c], .string m] W fun e W' => e = .returned (.tuple #[.string R0, .bool R1]) ∧ Below W.heap.size W W') ∧
    Hid (∀ W a b o c, ListIn W a b o xs → MaxIs W → Calls Tryd.prog 10 #[.agg #[.slice a xs.length c], .string m] W fun e W' => e = .returned (.tuple #[.string R0, .bool R1]) ∧ Below W.heap.size W W') :=
  ⟨_, _, fun W a b o c h => sEncode_any a b o c xs m W h hm, fun W a b o c h h2 => encode_any a b o c xs m W h hm h2⟩

/-! ### TimeOfMessage -/
def timeMR (xs : List ByteArray) (m : ByteArray) : Int × Bool := if validM xs m = true then (((tmGo false (encL (xs.map bl) (bl m)) : Nat) : Int), true) else (0, false)
theorem enc_sig {xs : List ByteArray} {m : ByteArray} (h : validM xs m = true) : (pieces (bl (ba (encL (xs.map bl) (bl m))))).isSome = true ∧ (ba (encL (xs.map bl) (bl m))).size ≤ 71 := by
  obtain ⟨h1, h2⟩ := validM_iff.1 h
  have h3 : tableL (xs.map bl) = true := h1
  have h4 : msgL (xs.map bl).length (bl m) = true := by rw [List.length_map]; exact h2
  rw [bl_ba, pieces_enc h3 h4, ba_size]
  exact ⟨rfl, enc_len h3 h4⟩

theorem timeM_any (a : Option Addr) (b o c : Nat) (xs : List ByteArray) (m : ByteArray) (w : World) (h : ListIn w a b o xs) (hm : m.size ≤ 1048576) (hM : MaxIs w) :
    Calls Tryd.prog 14 #[.agg #[.slice a xs.length c], .string m] w fun e w' => e = .returned (.tuple #[.int .i64 (timeMR xs m).1, .bool (timeMR xs m).2]) ∧ Below w.heap.size w w' := by
  have hl := h.len
  have F := Lib.hid fun W (hb : Below w.heap.size w W) => encode_any a b o c xs m W (h.below hb) hm (hM.below hb)
  clear h hM
  by_cases hv : validM xs m = true
  · have F2 := Lib.hid fun W hb => val_eq (v' := .tuple #[.string (ba (encL (xs.map bl) (bl m))), .bool true]) (F.out W hb) (by rw [show encR xs m = _ from if_pos hv])
    have hsig := enc_sig hv
    have G := Lib.hid fun W => timeSig_any (ba (encL (xs.map bl) (bl m))) W (by omega)
    have HR : Hid (timeR (ba (encL (xs.map bl) (bl m))) = timeMR xs m) := Lib.hid (by
      unfold timeR timeMR
      rw [if_pos hv, if_pos hsig.1, bl_ba])
    generalize ba (encL (xs.map bl) (bl m)) = y at F2 G HR
    clear hsig F hv
    go_enter Tryd.func14, Tryd.ntmps14
    go_wp2_with fail
    refine (F2.out _ (below_alloc _ _)).mono ?_
    rintro e w1 ⟨rfl, hb⟩
    have HB := Lib.hid ((below_alloc w (.cells #[.slice a xs.length c] 26)).trans (hb.mono (by simp)))
    clear hb
    go_wp2_with fail
    refine (G.out _).mono ?_
    rintro e w2 ⟨rfl, hb⟩
    have HB2 := Lib.hid (HB.out.trans (hb.mono HB.out.size))
    clear hb
    go_wp2
    go_ret2
    exact ⟨by rw [HR.out]; rfl, HB2.out⟩
  · have F2 := Lib.hid fun W hb => val_eq (v' := .tuple #[.string ⟨#[]⟩, .bool false]) (F.out W hb) (by rw [show encR xs m = _ from if_neg hv])
    have HR : Hid (timeMR xs m = (0, false)) := Lib.hid (if_neg hv)
    clear F hv
    go_enter Tryd.func14, Tryd.ntmps14
    go_wp2_with fail
    refine (F2.out _ (below_alloc _ _)).mono ?_
    rintro e w1 ⟨rfl, hb⟩
    have HB := Lib.hid ((below_alloc w (.cells #[.slice a xs.length c] 26)).trans (hb.mono (by simp)))
    clear hb
    go_wp2
    go_ret2
    exact ⟨by rw [HR.out]; rfl, HB.out⟩

theorem sTimeM_any (a : Option Addr) (b o c : Nat) (xs : List ByteArray) (m : ByteArray) (w : World) (h : ListIn w a b o xs) (hm : m.size ≤ 1048576) :
    Calls Tryd.prog 15 #[.agg #[.slice a xs.length c], .string m] w fun e w' => e = .returned (.tuple #[.int .i64 (timeMR xs m).1, .bool (timeMR xs m).2]) ∧ Below w.heap.size w w' := by
  have hl := h.len
  have F := Lib.hid fun W hb => stable_any a b o c xs W (h.below (w' := W) hb)
  have HS := Lib.hid h
  clear h
  by_cases ht : tableB xs = true
  · have F2 := Lib.hid fun W hb => val_eq (v' := .bool true) (F.out W hb) (by rw [ht])
    have hn := ((tableB_iff xs).1 ht).1
    have G := Lib.hid fun W => sMsg_any a b o c xs m W hn.1 hn.2 (by unfold maxLen; omega)
    by_cases hv : msgL xs.length (bl m) = true
    · have G2 := Lib.hid fun W => val_eq (v' := .bool true) (G.out W) (by rw [hv])
      have E := Lib.hid fun W hb => sEnc_any a b o c xs m W (HS.out.below (w' := W) hb) ht hv
      have hsig := enc_sig (validM_iff.2 ⟨ht, hv⟩)
      have T := Lib.hid fun W => sTimeOf_any (ba (encL (xs.map bl) (bl m))) W (by omega) hsig.1
      have HR : Hid (timeMR xs m = (((tmGo false (bl (ba (encL (xs.map bl) (bl m)))) : Nat) : Int), true)) := Lib.hid (by rw [bl_ba]; exact if_pos (validM_iff.2 ⟨ht, hv⟩))
      clear ht hn F G hv hsig
      generalize ba (encL (xs.map bl) (bl m)) = y at E T HR
      go_enter Tryd.func15, Tryd.ntmps15
      go_wp2_with fail
      refine (F2.out _ (below_alloc _ _)).mono ?_
      rintro e w1 ⟨rfl, hb⟩
      have hc1 : w1.cell? ⟨w.heap.size, 0, none⟩ = some (.slice a xs.length c) := (hb.cell (p := ⟨w.heap.size, 0, none⟩) (by simp)).trans (cell_new _ _ _)
      have HB := Lib.hid ((below_alloc w (.cells #[.slice a xs.length c] 26)).trans (hb.mono (by simp)))
      clear hb
      go_wp2_with fail
      refine (G2.out _).mono ?_
      rintro e w2 ⟨rfl, hb⟩
      have hc2 := (hb.cell (World.block_lt_of_cell? _ _ hc1)).trans hc1
      have HB2 := Lib.hid (HB.out.trans (hb.mono HB.out.size))
      clear hb hc1
      go_wp2_with fail
      refine (E.out _ HB2.out).mono ?_
      rintro e w3 ⟨rfl, hb⟩
      have HB3 := Lib.hid (HB2.out.trans (hb.mono HB2.out.size))
      clear hb
      go_wp2_with fail
      refine (T.out _).mono ?_
      rintro e w4 ⟨rfl, hb⟩
      have HB4 := Lib.hid (HB3.out.trans (hb.mono HB3.out.size))
      clear hb
      go_wp2
      go_ret2
      exact ⟨by rw [HR.out]; rfl, HB4.out⟩
    · have G2 := Lib.hid fun W => val_eq (v' := .bool false) (G.out W) (by simp [hv])
      have HR : Hid (timeMR xs m = (0, false)) := Lib.hid (if_neg (fun h => hv (validM_iff.1 h).2))
      clear ht hn F G hv
      go_enter Tryd.func15, Tryd.ntmps15
      go_wp2_with fail
      refine (F2.out _ (below_alloc _ _)).mono ?_
      rintro e w1 ⟨rfl, hb⟩
      have hc1 : w1.cell? ⟨w.heap.size, 0, none⟩ = some (.slice a xs.length c) := (hb.cell (p := ⟨w.heap.size, 0, none⟩) (by simp)).trans (cell_new _ _ _)
      have HB := Lib.hid ((below_alloc w (.cells #[.slice a xs.length c] 26)).trans (hb.mono (by simp)))
      clear hb
      go_wp2_with fail
      refine (G2.out _).mono ?_
      rintro e w2 ⟨rfl, hb⟩
      have HB2 := Lib.hid (HB.out.trans (hb.mono HB.out.size))
      clear hb hc1
      go_wp2
      go_ret2
      exact ⟨by rw [HR.out]; rfl, HB2.out⟩
  · have F2 := Lib.hid fun W hb => val_eq (v' := .bool false) (F.out W hb) (by simp [ht])
    have HR : Hid (timeMR xs m = (0, false)) := Lib.hid (if_neg (fun h => ht (validM_iff.1 h).1))
    clear ht F
    go_enter Tryd.func15, Tryd.ntmps15
    go_wp2_with fail
    refine (F2.out _ (below_alloc _ _)).mono ?_
    rintro e w1 ⟨rfl, hb⟩
    have HB := Lib.hid ((below_alloc w (.cells #[.slice a xs.length c] 26)).trans (hb.mono (by simp)))
    clear hb
    go_wp2
    go_ret2
    exact ⟨by rw [HR.out]; rfl, HB.out⟩

theorem timeOfMessage_both (xs : List ByteArray) (m : ByteArray) (hl : xs.length ≤ 1048576) (ht : ∀ x ∈ xs, x.size ≤ 1048576) (hm : m.size ≤ 1048576) : ∃ (R0 : Int) (R1 : Bool),
    Hid (∀ W a b o c, ListIn W a b o xs → Calls Tryd.prog 15 #[.agg #[.slice a xs.length c], .string m] W fun e W' => e = .returned (.tuple #[.int .i64 R0, .bool R1]) ∧ Below W.heap.size W W') ∧
    Hid (∀ W a b o c, ListIn W a b o xs → MaxIs W → Calls Tryd.prog 14 #[.agg #[.slice a xs.length c], .string m] W fun e W' => e = .returned (.tuple #[.int .i64 R0, .bool R1]) ∧ Below W.heap.size W W') :=
  ⟨_, _, fun W a b o c h => sTimeM_any a b o c xs m W h hm, fun W a b o c h h2 => timeM_any a b o c xs m W h hm h2⟩
end Go.Proofs.YtekgmdigchobbaaDoor
