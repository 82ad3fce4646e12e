/-
  IsFreeTable and BeginningPairs, the program's and the model's: both answer alike. Used by the claims on chapter 3.
-/
import Derived.Test.YtekgmdigchobbaaPairS
namespace Go.Proofs.Ytekgmdigchobbaa
open Go.RowKit
set_option linter.unusedVariables false

def pairsR (xs : List ByteArray) : List (Nat × Nat) × Bool := if tableB xs = true then (pairsTo xs xs.length 0, true) else ([], false)
def freeR (xs : List ByteArray) : Bool × Bool := if tableB xs = true then (((pairsTo xs xs.length 0).length : Int) == 0, true) else (false, false)
theorem size5 {xs : List ByteArray} (h : tableB xs = true) : ∀ x ∈ xs, x.size ≤ 5 := fun x hx => by
  have := ((tableB_iff xs).1 h).2.1 x hx
  simp only [marksL, Bool.and_eq_true, decide_eq_true_eq, bl_len] at this
  exact this.1.2
theorem dec_zero (n : Nat) : ((n : Int) == 0) = decide (n = 0) := by
  by_cases h : n = 0
  · subst h; rfl
  · rw [decide_eq_false h]; exact beq_false_of_ne (by omega)

theorem isFree_any (a : Option Addr) (b o c : Nat) (xs : List ByteArray) (w : World) (h : ListIn w a b o xs) :
    Calls Try.prog 65 #[.agg #[.slice a xs.length c]] w fun e w' => e = .returned (.tuple #[.bool (freeR xs).1, .bool (freeR xs).2]) ∧ Below w.heap.size w w' := by
  have hl := h.len
  have F := Lib.hid fun W hb => isTable_any a b o c xs W (h.below (w' := W) hb)
  have HS := Lib.hid h
  clear h
  by_cases ht : tableB xs = true
  · have F2 := Lib.hid fun W hb => val_eq (v' := .bool true) (F.out W hb) (by rw [ht])
    have G := Lib.hid fun W hb => pairs_any a b o c xs W (HS.out.below (w' := W) hb) ((tableB_iff xs).1 ht).1.2
    have HR : Hid (freeR xs = (((pairsTo xs xs.length 0).length : Int) == 0, true)) := Lib.hid (if_pos ht)
    rw [HR.out]
    generalize pairsTo xs xs.length 0 = pl at G
    clear ht F
    go_enter Try.func65, Try.ntmps65
    go_wp2_with fail
    refine (F2.out _ (below_alloc _ _)).mono ?_
    rintro e w1 ⟨rfl, hb⟩
    have hc1 : w1.cell? ⟨w.heap.size, 0, none⟩ = some (.slice a xs.length c) := (hb.cell (p := ⟨w.heap.size, 0, none⟩) (by simp)).trans (cell_new _ _ _)
    have HB := Lib.hid ((below_alloc w (.cells #[.slice a xs.length c] 26)).trans (hb.mono (by simp)))
    clear hb
    go_wp2_with fail
    refine (G.out _ HB.out).mono ?_
    rintro e w2 ⟨⟨a2, g2, c2, rfl, k1, k2, k3⟩, hb⟩
    have HB2 := Lib.hid (HB.out.trans (hb.mono HB.out.size))
    have HK := Lib.hid (And.intro k1 (And.intro k2 k3))
    clear hb k1 k2 k3
    go_wp2
    go_ret2
    exact ⟨rfl, HB2.out⟩
  · have F2 := Lib.hid fun W hb => val_eq (v' := .bool false) (F.out W hb) (by simp [ht])
    have HR : Hid (freeR xs = (false, false)) := Lib.hid (if_neg ht)
    rw [HR.out]
    clear ht F
    go_enter Try.func65, Try.ntmps65
    go_wp2_with fail
    refine (F2.out _ (below_alloc _ _)).mono ?_
    rintro e w1 ⟨rfl, hb⟩
    have hc1 : w1.cell? ⟨w.heap.size, 0, none⟩ = some (.slice a xs.length c) := (hb.cell (p := ⟨w.heap.size, 0, none⟩) (by simp)).trans (cell_new _ _ _)
    have HB := Lib.hid ((below_alloc w (.cells #[.slice a xs.length c] 26)).trans (hb.mono (by simp)))
    clear hb
    go_wp2
    go_ret2
    exact ⟨rfl, HB.out⟩

theorem sIsFree_any (a : Option Addr) (b o c : Nat) (xs : List ByteArray) (w : World) (h : ListIn w a b o xs) :
    Calls Try.prog 64 #[.agg #[.slice a xs.length c]] w fun e w' => e = .returned (.tuple #[.bool (freeR xs).1, .bool (freeR xs).2]) ∧ Below w.heap.size w w' := by
  have hl := h.len
  have F := Lib.hid fun W hb => stable_any a b o c xs W (h.below (w' := W) hb)
  have HS := Lib.hid h
  clear h
  by_cases ht : tableB xs = true
  · have F2 := Lib.hid fun W hb => val_eq (v' := .bool true) (F.out W hb) (by rw [ht])
    have G := Lib.hid fun W hb => sPairs_any a b o c xs W (HS.out.below (w' := W) hb) ((tableB_iff xs).1 ht).1.2 (size5 ht)
    have HR : Hid (freeR xs = (((pairsTo xs xs.length 0).length : Int) == 0, true)) := Lib.hid (if_pos ht)
    rw [HR.out]
    generalize pairsTo xs xs.length 0 = pl at G
    clear ht F
    go_enter Try.func64, Try.ntmps64
    go_wp2_with fail
    refine (F2.out _ (below_alloc _ _)).mono ?_
    rintro e w1 ⟨rfl, hb⟩
    have hc1 : w1.cell? ⟨w.heap.size, 0, none⟩ = some (.slice a xs.length c) := (hb.cell (p := ⟨w.heap.size, 0, none⟩) (by simp)).trans (cell_new _ _ _)
    have HB := Lib.hid ((below_alloc w (.cells #[.slice a xs.length c] 26)).trans (hb.mono (by simp)))
    clear hb
    go_wp2_with fail
    refine (G.out _ HB.out).mono ?_
    rintro e w2 ⟨⟨a2, g2, c2, rfl, k1, k2, k3⟩, hb⟩
    have HB2 := Lib.hid (HB.out.trans (hb.mono HB.out.size))
    have HK := Lib.hid (And.intro k1 (And.intro k2 k3))
    clear hb k1 k2 k3
    go_wp2
    go_ret2
    exact ⟨rfl, HB2.out⟩
  · have F2 := Lib.hid fun W hb => val_eq (v' := .bool false) (F.out W hb) (by simp [ht])
    have HR : Hid (freeR xs = (false, false)) := Lib.hid (if_neg ht)
    rw [HR.out]
    clear ht F
    go_enter Try.func64, Try.ntmps64
    go_wp2_with fail
    refine (F2.out _ (below_alloc _ _)).mono ?_
    rintro e w1 ⟨rfl, hb⟩
    have hc1 : w1.cell? ⟨w.heap.size, 0, none⟩ = some (.slice a xs.length c) := (hb.cell (p := ⟨w.heap.size, 0, none⟩) (by simp)).trans (cell_new _ _ _)
    have HB := Lib.hid ((below_alloc w (.cells #[.slice a xs.length c] 26)).trans (hb.mono (by simp)))
    clear hb
    go_wp2
    go_ret2
    exact ⟨rfl, HB.out⟩

theorem pairsB_any (a : Option Addr) (b o c : Nat) (xs : List ByteArray) (w : World) (h : ListIn w a b o xs) :
    Calls Try.prog 67 #[.agg #[.slice a xs.length c]] w (SeqOut (prs (pairsR xs).1) (pairsR xs).1.length (pairsR xs).2 w) := by
  have hl := h.len
  have F := Lib.hid fun W hb => isTable_any a b o c xs W (h.below (w' := W) hb)
  have HS := Lib.hid h
  clear h
  by_cases ht : tableB xs = true
  · have F2 := Lib.hid fun W hb => val_eq (v' := .bool true) (F.out W hb) (by rw [ht])
    have G := Lib.hid fun W hb => pairs_any a b o c xs W (HS.out.below (w' := W) hb) ((tableB_iff xs).1 ht).1.2
    have HR : Hid (pairsR xs = (pairsTo xs xs.length 0, true)) := Lib.hid (if_pos ht)
    rw [HR.out]
    generalize pairsTo xs xs.length 0 = pl at G
    clear ht F
    go_enter Try.func67, Try.ntmps67
    go_wp2_with fail
    refine (F2.out _ (below_alloc _ _)).mono ?_
    rintro e w1 ⟨rfl, hb⟩
    have hc1 : w1.cell? ⟨w.heap.size, 0, none⟩ = some (.slice a xs.length c) := (hb.cell (p := ⟨w.heap.size, 0, none⟩) (by simp)).trans (cell_new _ _ _)
    have HB := Lib.hid ((below_alloc w (.cells #[.slice a xs.length c] 26)).trans (hb.mono (by simp)))
    clear hb
    go_wp2_with fail
    refine (G.out _ HB.out).mono ?_
    rintro e w2 ⟨⟨a2, g2, c2, rfl, k1, k2, k3⟩, hb⟩
    have HB2 := Lib.hid (HB.out.trans (hb.mono HB.out.size))
    have HK := Lib.hid (And.intro k1 (And.intro k2 k3))
    clear hb k1 k2 k3
    go_wp2
    go_ret2
    exact ⟨a2, g2, c2, rfl, HK.out.1, fun h => Nat.le_trans HB.out.size (HK.out.2.1 h), HK.out.2.2, HB2.out⟩
  · have F2 := Lib.hid fun W hb => val_eq (v' := .bool false) (F.out W hb) (by simp [ht])
    have HR : Hid (pairsR xs = ([], false)) := Lib.hid (if_neg ht)
    rw [HR.out]
    clear ht F
    go_enter Try.func67, Try.ntmps67
    go_wp2_with fail
    refine (F2.out _ (below_alloc _ _)).mono ?_
    rintro e w1 ⟨rfl, hb⟩
    have hc1 : w1.cell? ⟨w.heap.size, 0, none⟩ = some (.slice a xs.length c) := (hb.cell (p := ⟨w.heap.size, 0, none⟩) (by simp)).trans (cell_new _ _ _)
    have HB := Lib.hid ((below_alloc w (.cells #[.slice a xs.length c] 26)).trans (hb.mono (by simp)))
    clear hb
    go_wp2
    go_ret2
    exact seqOut_none HB.out

theorem sPairsB_any (a : Option Addr) (b o c : Nat) (xs : List ByteArray) (w : World) (h : ListIn w a b o xs) :
    Calls Try.prog 66 #[.agg #[.slice a xs.length c]] w (SeqOut (prs (pairsR xs).1) (pairsR xs).1.length (pairsR xs).2 w) := by
  have hl := h.len
  have F := Lib.hid fun W hb => stable_any a b o c xs W (h.below (w' := W) hb)
  have HS := Lib.hid h
  clear h
  by_cases ht : tableB xs = true
  · have F2 := Lib.hid fun W hb => val_eq (v' := .bool true) (F.out W hb) (by rw [ht])
    have G := Lib.hid fun W hb => sPairs_any a b o c xs W (HS.out.below (w' := W) hb) ((tableB_iff xs).1 ht).1.2 (size5 ht)
    have HR : Hid (pairsR xs = (pairsTo xs xs.length 0, true)) := Lib.hid (if_pos ht)
    rw [HR.out]
    generalize pairsTo xs xs.length 0 = pl at G
    clear ht F
    go_enter Try.func66, Try.ntmps66
    go_wp2_with fail
    refine (F2.out _ (below_alloc _ _)).mono ?_
    rintro e w1 ⟨rfl, hb⟩
    have hc1 : w1.cell? ⟨w.heap.size, 0, none⟩ = some (.slice a xs.length c) := (hb.cell (p := ⟨w.heap.size, 0, none⟩) (by simp)).trans (cell_new _ _ _)
    have HB := Lib.hid ((below_alloc w (.cells #[.slice a xs.length c] 26)).trans (hb.mono (by simp)))
    clear hb
    go_wp2_with fail
    refine (G.out _ HB.out).mono ?_
    rintro e w2 ⟨⟨a2, g2, c2, rfl, k1, k2, k3⟩, hb⟩
    have HB2 := Lib.hid (HB.out.trans (hb.mono HB.out.size))
    have HK := Lib.hid (And.intro k1 (And.intro k2 k3))
    clear hb k1 k2 k3
    go_wp2
    go_ret2
    exact ⟨a2, g2, c2, rfl, HK.out.1, fun h => Nat.le_trans HB.out.size (HK.out.2.1 h), HK.out.2.2, HB2.out⟩
  · have F2 := Lib.hid fun W hb => val_eq (v' := .bool false) (F.out W hb) (by simp [ht])
    have HR : Hid (pairsR xs = ([], false)) := Lib.hid (if_neg ht)
    rw [HR.out]
    clear ht F
    go_enter Try.func66, Try.ntmps66
    go_wp2_with fail
    refine (F2.out _ (below_alloc _ _)).mono ?_
    rintro e w1 ⟨rfl, hb⟩
    have hc1 : w1.cell? ⟨w.heap.size, 0, none⟩ = some (.slice a xs.length c) := (hb.cell (p := ⟨w.heap.size, 0, none⟩) (by simp)).trans (cell_new _ _ _)
    have HB := Lib.hid ((below_alloc w (.cells #[.slice a xs.length c] 26)).trans (hb.mono (by simp)))
    clear hb
    go_wp2
    go_ret2
    exact ⟨_, w.heap.size, _, rfl, ⟨fun h => by simp [prs] at h, fun j x hx => by simp [prs] at hx⟩, fun h => by simp [prs] at h, fun j hj => by simp [prs] at hj, HB.out.alloc HB.out.size _⟩

theorem isFreeTable_both (xs : List ByteArray) (hl : xs.length ≤ 1048576) (ht : ∀ x ∈ xs, x.size ≤ 1048576) : ∃ R0 R1 : Bool,
    Hid (∀ W a b o c, ListIn W a b o xs → Calls Try.prog 64 #[.agg #[.slice a xs.length c]] W fun e W' => e = .returned (.tuple #[.bool R0, .bool R1]) ∧ Below W.heap.size W W') ∧
    Hid (∀ W a b o c, ListIn W a b o xs → Calls Try.prog 65 #[.agg #[.slice a xs.length c]] W fun e W' => e = .returned (.tuple #[.bool R0, .bool R1]) ∧ Below W.heap.size W W') :=
  ⟨_, _, fun W a b o c h => sIsFree_any a b o c xs W h, fun W a b o c h => isFree_any a b o c xs W h⟩
theorem beginningPairs_both (xs : List ByteArray) (hl : xs.length ≤ 1048576) (ht : ∀ x ∈ xs, x.size ≤ 1048576) : ∃ (l : List (Nat × Nat)) (R1 : Bool), l.length ≤ 100 ∧
    Hid (∀ W a b o c, ListIn W a b o xs → Calls Try.prog 66 #[.agg #[.slice a xs.length c]] W (SeqOut (prs l) l.length R1 W)) ∧
    Hid (∀ W a b o c, ListIn W a b o xs → Calls Try.prog 67 #[.agg #[.slice a xs.length c]] W (SeqOut (prs l) l.length R1 W)) :=
  ⟨_, _, by
    unfold pairsR
    by_cases h : tableB xs = true
    · rw [if_pos h]
      have h1 := pairsTo_le xs 0 xs.length
      have h2 := ((tableB_iff xs).1 h).1.2
      have h3 : xs.length * xs.length ≤ 10 * 10 := Nat.mul_le_mul h2 h2
      show (pairsTo xs xs.length 0).length ≤ _
      omega
    · rw [if_neg h]; simp, fun W a b o c h => sPairsB_any a b o c xs W h, fun W a b o c h => pairsB_any a b o c xs W h⟩
end Go.Proofs.Ytekgmdigchobbaa
