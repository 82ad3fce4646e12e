/-
  LeastDistance, ClosestPairs, IsSafe, CanRepair of the model, and both together. Used by the claims on chapter 6.
-/
import Derived.Test.YtgdiffdpjpkleaaCpB
namespace Go.Proofs.Ytgdiffdpjpkleaa
open Go.RowKit Go.Maps
set_option linter.unusedVariables false

set_option maxHeartbeats 1000000 in
theorem sLeastDistance_any (a : Option Addr) (b o c : Nat) (xs : List ByteArray) (w : World) (h : ListIn w a b o xs) :
    Calls Try.prog 31 #[.agg #[.slice a xs.length c]] w fun e w' => e = .returned (.tuple #[.int .i64 (cpZ xs), .bool (cpOk xs)]) ∧ Below w.heap.size w w' := by
  have hl := h.len
  have F := Lib.hid fun W hb => stable_any a b o c xs W (h.below (w' := W) hb)
  have HS := Lib.hid h
  clear h
  by_cases ht : tableB xs = true
  · have F2 := Lib.hid fun W hb => val_eq (v' := .bool true) (F.out W hb) (by rw [ht])
    have E := Lib.hid fun W hb => sLeast_any a b o c xs W (HS.out.below (w' := W) hb) ht
    by_cases h2 : 2 ≤ xs.length
    · have hp := leastP_pos ht h2
      have hk : cpOk xs = true := cpOk_iff.2 ⟨ht, h2⟩
      have hlp : lpN xs = leastP xs := by unfold lpN; rw [if_pos h2]
      have hl2 : ¬ (xs.length : Int) < 2 := by omega
      have HZ : Hid (cpZ xs = (leastP xs : Int)) := Lib.hid (by unfold cpZ; rw [if_pos hk])
      rw [hlp] at E
      rw [HZ.out, hk]
      clear ht h2 hk F hp hlp
      generalize leastP xs = m at E ⊢
      go_enter Try.func31, Try.ntmps31
      go_wp2_with fail
      refine (F2.out _ (below_alloc _ _)).mono ?_
      rintro e w1 ⟨rfl, hb⟩
      have hc1 : w1.cell? ⟨w.heap.size, 0, none⟩ = some (.slice a xs.length c) := (hb.cell (p := ⟨w.heap.size, 0, none⟩) (by simp)).trans (cell_new _ _ _)
      have HB := Lib.hid ((below_alloc w (.cells #[.slice a xs.length c] 32)).trans (hb.mono (by simp)))
      clear hb
      go_wp2_with fail
      refine (E.out _ HB.out).mono ?_
      rintro e w2 ⟨rfl, hb⟩
      have HB2 := Lib.hid (HB.out.trans (hb.mono HB.out.size))
      clear hb hc1
      go_wp2
      go_ret2
      exact ⟨by first | rfl | rfl, HB2.out⟩
    · have hk : cpOk xs = false := by rw [Bool.eq_false_iff]; exact fun e => h2 (cpOk_iff.1 e).2
      have hl2 : (xs.length : Int) < 2 := by omega
      have HZ : Hid (cpZ xs = 0) := Lib.hid (by unfold cpZ; rw [if_neg (by rw [hk]; simp)])
      rw [HZ.out, hk]
      clear ht h2 hk F
      go_enter Try.func31, Try.ntmps31
      go_wp2_with fail
      refine (F2.out _ (below_alloc _ _)).mono ?_
      rintro e w1 ⟨rfl, hb⟩
      have hc1 : w1.cell? ⟨w.heap.size, 0, none⟩ = some (.slice a xs.length c) := (hb.cell (p := ⟨w.heap.size, 0, none⟩) (by simp)).trans (cell_new _ _ _)
      have HB := Lib.hid ((below_alloc w (.cells #[.slice a xs.length c] 32)).trans (hb.mono (by simp)))
      clear hb
      go_wp2
      go_ret2
      exact ⟨rfl, HB.out⟩
  · have F2 := Lib.hid fun W hb => val_eq (v' := .bool false) (F.out W hb) (by simp [ht])
    have ht' : tableB xs = false := by simpa using ht
    have hk : cpOk xs = false := by rw [Bool.eq_false_iff]; exact fun e => ht (cpOk_iff.1 e).1
    have HZ : Hid (cpZ xs = 0) := Lib.hid (by unfold cpZ; rw [if_neg (by rw [hk]; simp)])
    rw [HZ.out, hk]
    clear ht ht' hk F
    go_enter Try.func31, Try.ntmps31
    go_wp2_with fail
    refine (F2.out _ (below_alloc _ _)).mono ?_
    rintro e w1 ⟨rfl, hb⟩
    have hc1 : w1.cell? ⟨w.heap.size, 0, none⟩ = some (.slice a xs.length c) := (hb.cell (p := ⟨w.heap.size, 0, none⟩) (by simp)).trans (cell_new _ _ _)
    have HB := Lib.hid ((below_alloc w (.cells #[.slice a xs.length c] 32)).trans (hb.mono (by simp)))
    clear hb
    go_wp2
    go_ret2
    exact ⟨rfl, HB.out⟩
set_option maxHeartbeats 1000000 in
theorem sCanRepair_any (a : Option Addr) (b o c : Nat) (xs : List ByteArray) (w : World) (h : ListIn w a b o xs) :
    Calls Try.prog 40 #[.agg #[.slice a xs.length c]] w fun e w' => e = .returned (.tuple #[.int .i64 (repZ xs), .bool (cpOk xs)]) ∧ Below w.heap.size w w' := by
  have hl := h.len
  have F := Lib.hid fun W hb => stable_any a b o c xs W (h.below (w' := W) hb)
  have HS := Lib.hid h
  clear h
  by_cases ht : tableB xs = true
  · have F2 := Lib.hid fun W hb => val_eq (v' := .bool true) (F.out W hb) (by rw [ht])
    have E := Lib.hid fun W hb => sLeast_any a b o c xs W (HS.out.below (w' := W) hb) ht
    by_cases h2 : 2 ≤ xs.length
    · have hp := leastP_pos ht h2
      have hk : cpOk xs = true := cpOk_iff.2 ⟨ht, h2⟩
      have hlp : lpN xs = leastP xs := by unfold lpN; rw [if_pos h2]
      have hl2 : ¬ (xs.length : Int) < 2 := by omega
      obtain ⟨m, hm⟩ : ∃ m, leastP xs = m + 1 := ⟨leastP xs - 1, by omega⟩
      have HZ : Hid (repZ xs = ((m / 2 : Nat) : Int)) := Lib.hid (by unfold repZ; rw [if_pos hk, hm]; rfl)
      have hm4 : m ≤ 4 := by omega
      rw [hlp, hm, show ((m + 1 : Nat) : Int) = (m : Int) + 1 from rfl] at E
      rw [HZ.out, hk]
      clear ht h2 hk F hp hlp hm
      have e1 : (m : Int) + 1 - 1 = (m : Int) := by omega
      have HQ := Lib.hid (half_facts m (by omega))
      go_enter Try.func40, Try.ntmps40
      go_wp2_with fail
      refine (F2.out _ (below_alloc _ _)).mono ?_
      rintro e w1 ⟨rfl, hb⟩
      have hc1 : w1.cell? ⟨w.heap.size, 0, none⟩ = some (.slice a xs.length c) := (hb.cell (p := ⟨w.heap.size, 0, none⟩) (by simp)).trans (cell_new _ _ _)
      have HB := Lib.hid ((below_alloc w (.cells #[.slice a xs.length c] 32)).trans (hb.mono (by simp)))
      clear hb
      go_wp2_with fail
      refine (E.out _ HB.out).mono ?_
      rintro e w2 ⟨rfl, hb⟩
      have HB2 := Lib.hid (HB.out.trans (hb.mono HB.out.size))
      clear hb hc1
      go_wp2
      go_ret2
      exact ⟨by first | rfl | (rw [← HQ.out]; rfl), HB2.out⟩
    · have hk : cpOk xs = false := by rw [Bool.eq_false_iff]; exact fun e => h2 (cpOk_iff.1 e).2
      have hl2 : (xs.length : Int) < 2 := by omega
      have HZ : Hid (repZ xs = 0) := Lib.hid (if_neg (by rw [hk]; simp))
      rw [HZ.out, hk]
      clear ht h2 hk F
      go_enter Try.func40, Try.ntmps40
      go_wp2_with fail
      refine (F2.out _ (below_alloc _ _)).mono ?_
      rintro e w1 ⟨rfl, hb⟩
      have hc1 : w1.cell? ⟨w.heap.size, 0, none⟩ = some (.slice a xs.length c) := (hb.cell (p := ⟨w.heap.size, 0, none⟩) (by simp)).trans (cell_new _ _ _)
      have HB := Lib.hid ((below_alloc w (.cells #[.slice a xs.length c] 32)).trans (hb.mono (by simp)))
      clear hb
      go_wp2
      go_ret2
      exact ⟨rfl, HB.out⟩
  · have F2 := Lib.hid fun W hb => val_eq (v' := .bool false) (F.out W hb) (by simp [ht])
    have ht' : tableB xs = false := by simpa using ht
    have hk : cpOk xs = false := by rw [Bool.eq_false_iff]; exact fun e => ht (cpOk_iff.1 e).1
    have HZ : Hid (repZ xs = 0) := Lib.hid (if_neg (by rw [hk]; simp))
    rw [HZ.out, hk]
    clear ht ht' hk F
    go_enter Try.func40, Try.ntmps40
    go_wp2_with fail
    refine (F2.out _ (below_alloc _ _)).mono ?_
    rintro e w1 ⟨rfl, hb⟩
    have hc1 : w1.cell? ⟨w.heap.size, 0, none⟩ = some (.slice a xs.length c) := (hb.cell (p := ⟨w.heap.size, 0, none⟩) (by simp)).trans (cell_new _ _ _)
    have HB := Lib.hid ((below_alloc w (.cells #[.slice a xs.length c] 32)).trans (hb.mono (by simp)))
    clear hb
    go_wp2
    go_ret2
    exact ⟨rfl, HB.out⟩
set_option maxHeartbeats 1000000 in
theorem sIsSafe_any (a : Option Addr) (b o c : Nat) (xs : List ByteArray) (w : World) (h : ListIn w a b o xs) :
    Calls Try.prog 38 #[.agg #[.slice a xs.length c]] w fun e w' => e = .returned (.tuple #[.bool (safeR xs), .bool (tableB xs)]) ∧ Below w.heap.size w w' := by
  have hl := h.len
  have F := Lib.hid fun W hb => stable_any a b o c xs W (h.below (w' := W) hb)
  have HS := Lib.hid h
  clear h
  by_cases ht : tableB xs = true
  · have F2 := Lib.hid fun W hb => val_eq (v' := .bool true) (F.out W hb) (by rw [ht])
    have E := Lib.hid fun W hb => sLeast_any a b o c xs W (HS.out.below (w' := W) hb) ht
    have HR : Hid (safeR xs = ((lpN xs : Int) != 1)) := Lib.hid (by
      unfold safeR
      rw [ht, Bool.true_and]
      by_cases h : lpN xs = 1
      · rw [h]; rfl
      · rw [decide_eq_false h]; exact (bne_iff_ne.2 (by omega)).symm)
    rw [HR.out, ht]
    clear ht F
    generalize lpN xs = m at E ⊢
    go_enter Try.func38, Try.ntmps38
    go_wp2_with fail
    refine (F2.out _ (below_alloc _ _)).mono ?_
    rintro e w1 ⟨rfl, hb⟩
    have hc1 : w1.cell? ⟨w.heap.size, 0, none⟩ = some (.slice a xs.length c) := (hb.cell (p := ⟨w.heap.size, 0, none⟩) (by simp)).trans (cell_new _ _ _)
    have HB := Lib.hid ((below_alloc w (.cells #[.slice a xs.length c] 32)).trans (hb.mono (by simp)))
    clear hb
    go_wp2_with fail
    refine (E.out _ HB.out).mono ?_
    rintro e w2 ⟨rfl, hb⟩
    have HB2 := Lib.hid (HB.out.trans (hb.mono HB.out.size))
    clear hb hc1
    go_wp2
    go_ret2
    exact ⟨by first | rfl | rfl, HB2.out⟩
  · have F2 := Lib.hid fun W hb => val_eq (v' := .bool false) (F.out W hb) (by simp [ht])
    have ht' : tableB xs = false := by simpa using ht
    have hk : cpOk xs = false := by rw [Bool.eq_false_iff]; exact fun e => ht (cpOk_iff.1 e).1
    have HR : Hid (safeR xs = false) := Lib.hid (by unfold safeR; rw [ht']; rfl)
    rw [HR.out, ht']
    clear ht ht' hk F
    go_enter Try.func38, Try.ntmps38
    go_wp2_with fail
    refine (F2.out _ (below_alloc _ _)).mono ?_
    rintro e w1 ⟨rfl, hb⟩
    have hc1 : w1.cell? ⟨w.heap.size, 0, none⟩ = some (.slice a xs.length c) := (hb.cell (p := ⟨w.heap.size, 0, none⟩) (by simp)).trans (cell_new _ _ _)
    have HB := Lib.hid ((below_alloc w (.cells #[.slice a xs.length c] 32)).trans (hb.mono (by simp)))
    clear hb
    go_wp2
    go_ret2
    exact ⟨rfl, HB.out⟩
theorem leastDistance_both (xs : List ByteArray) (hl : xs.length ≤ 1048576) (ht : ∀ x ∈ xs, x.size ≤ 1048576) : ∃ (R0 : Int) (R1 : Bool),
    Hid (∀ W a b o c, ListIn W a b o xs → Calls Try.prog 31 #[.agg #[.slice a xs.length c]] W fun e W' => e = .returned (.tuple #[.int .i64 R0, .bool R1]) ∧ Below W.heap.size W W') ∧
    Hid (∀ W a b o c, ListIn W a b o xs → Calls Try.prog 32 #[.agg #[.slice a xs.length c]] W fun e W' => e = .returned (.tuple #[.int .i64 R0, .bool R1]) ∧ Below W.heap.size W W') :=
  ⟨_, _, fun W a b o c h => sLeastDistance_any a b o c xs W h, fun W a b o c h => leastDistance_any a b o c xs W h⟩
theorem canRepair_both (xs : List ByteArray) (hl : xs.length ≤ 1048576) (ht : ∀ x ∈ xs, x.size ≤ 1048576) : ∃ (R0 : Int) (R1 : Bool),
    Hid (∀ W a b o c, ListIn W a b o xs → Calls Try.prog 40 #[.agg #[.slice a xs.length c]] W fun e W' => e = .returned (.tuple #[.int .i64 R0, .bool R1]) ∧ Below W.heap.size W W') ∧
    Hid (∀ W a b o c, ListIn W a b o xs → Calls Try.prog 41 #[.agg #[.slice a xs.length c]] W fun e W' => e = .returned (.tuple #[.int .i64 R0, .bool R1]) ∧ Below W.heap.size W W') :=
  ⟨_, _, fun W a b o c h => sCanRepair_any a b o c xs W h, fun W a b o c h => canRepair_any a b o c xs W h⟩
theorem isSafe_both (xs : List ByteArray) (hl : xs.length ≤ 1048576) (ht : ∀ x ∈ xs, x.size ≤ 1048576) : ∃ (R0 R1 : Bool),
    Hid (∀ W a b o c, ListIn W a b o xs → Calls Try.prog 38 #[.agg #[.slice a xs.length c]] W fun e W' => e = .returned (.tuple #[.bool R0, .bool R1]) ∧ Below W.heap.size W W') ∧
    Hid (∀ W a b o c, ListIn W a b o xs → Calls Try.prog 39 #[.agg #[.slice a xs.length c]] W fun e W' => e = .returned (.tuple #[.bool R0, .bool R1]) ∧ Below W.heap.size W W') :=
  ⟨_, _, fun W a b o c h => sIsSafe_any a b o c xs W h, fun W a b o c h => isSafe_any a b o c xs W h⟩
end Go.Proofs.Ytgdiffdpjpkleaa
