/-
  LeastDistance, ClosestPairs, IsSafe, CanRepair: the program's and the model's: both answer alike. Used by the claims on chapter 6.
-/
import Derived.Test.YtgdiffdpjpkleaaLpS
import Derived.Deep.AppendLies
namespace Go.Proofs.Ytgdiffdpjpkleaa
open Go.RowKit Go.Maps
set_option linter.unusedVariables false

theorem leastP_pos {xs : List ByteArray} (ht : tableB xs = true) (h2 : 2 ≤ xs.length) : 1 ≤ leastP xs ∧ leastP xs ≤ 5 := by
  have h5 : ∀ p ∈ allQ xs.length, farP xs p ≤ 5 := fun p hp => farP_le (marks5 ht) hp
  refine ⟨?_, minOn_le5 (allQ_ne h2) h5⟩
  obtain ⟨p, hp, e⟩ := minOn_at (allQ_ne h2) h5
  have hm := mem_allQ.1 hp
  have := (farP_low ht (p := (p.2, p.1)) hm.2 hm.1).1
  rw [farP_comm] at this
  unfold leastP
  rw [← e]
  exact this
theorem cpZ_eq {xs : List ByteArray} (ht : tableB xs = true) : cpZ xs = (lpN xs : Int) := by
  unfold cpZ lpN
  by_cases h : 2 ≤ xs.length
  · rw [if_pos (cpOk_iff.2 ⟨ht, h⟩), if_pos h]
  · rw [if_neg (fun e => h (cpOk_iff.1 e).2), if_neg h]; rfl
def safeR (xs : List ByteArray) : Bool := tableB xs && !decide (lpN xs = 1)
def repZ (xs : List ByteArray) : Int := if cpOk xs = true then (((leastP xs - 1) / 2 : Nat) : Int) else 0

/-! ### The program's -/
theorem leastDistance_any (a : Option Addr) (b o c : Nat) (xs : List ByteArray) (w : World) (h : ListIn w a b o xs) :
    Calls Try.prog 32 #[.agg #[.slice a xs.length c]] w fun e w' => e = .returned (.tuple #[.int .i64 (cpZ xs), .bool (cpOk xs)]) ∧ Below w.heap.size w w' := by
  have hl := h.len
  have F := Lib.hid fun W hb => closest_any a b o c xs W (h.below (w' := W) hb)
  clear h
  generalize cpOk xs = q at F ⊢
  go_enter Try.func32, Try.ntmps32
  go_wp2_with fail
  refine (F.out _ (below_alloc _ _)).mono ?_
  rintro e w1 ⟨a1, g1, c1, rfl, _, _, _, hb⟩
  have HB := Lib.hid ((below_alloc w (.cells #[.slice a xs.length c] 32)).trans (hb.mono (by simp)))
  clear hb
  go_wp2
  go_ret2
  exact ⟨rfl, HB.out⟩
theorem closestPairs_any (a : Option Addr) (b o c : Nat) (xs : List ByteArray) (w : World) (h : ListIn w a b o xs) :
    Calls Try.prog 34 #[.agg #[.slice a xs.length c]] w (SeqOut (prs (cpL xs)) (cpL xs).length (cpOk xs) w) := by
  have hl := h.len
  have F := Lib.hid fun W hb => closest_any a b o c xs W (h.below (w' := W) hb)
  clear h
  generalize cpOk xs = q at F ⊢
  go_enter Try.func34, Try.ntmps34
  go_wp2_with fail
  refine (F.out _ (below_alloc _ _)).mono ?_
  rintro e w1 ⟨a1, g1, c1, rfl, hs, hg, hf, hb⟩
  have HB := Lib.hid ((below_alloc w (.cells #[.slice a xs.length c] 32)).trans (hb.mono (by simp)))
  have HK := Lib.hid (And.intro hs (And.intro hg hf))
  clear hb hs hg hf
  go_wp2
  go_ret2
  exact ⟨a1, g1, c1, rfl, HK.out.1, fun h => Nat.le_trans (by simp) (HK.out.2.1 h), HK.out.2.2, HB.out⟩
theorem isSafe_any (a : Option Addr) (b o c : Nat) (xs : List ByteArray) (w : World) (h : ListIn w a b o xs) :
    Calls Try.prog 39 #[.agg #[.slice a xs.length c]] w fun e w' => e = .returned (.tuple #[.bool (safeR xs), .bool (tableB xs)]) ∧ Below w.heap.size w w' := by
  have hl := h.len
  have F := Lib.hid fun W hb => isTable_any a b o c xs W (h.below (w' := W) hb)
  have G := Lib.hid fun W hb => leastDistance_any a b o c xs W (h.below (w' := W) hb)
  clear h
  by_cases ht : tableB xs = true
  · have F2 := Lib.hid fun W hb => val_eq (v' := .bool true) (F.out W hb) (by rw [ht])
    by_cases h2 : 2 ≤ xs.length
    · have hk : cpOk xs = true := cpOk_iff.2 ⟨ht, h2⟩
      have hp := leastP_pos ht h2
      have HR : Hid (safeR xs = decide ((2 : Int) ≤ (leastP xs : Int))) := Lib.hid (by
        unfold safeR lpN
        rw [ht, if_pos h2, Bool.true_and, ← decide_not]
        exact decide_eq_decide.2 (by omega))
      have G2 : Hid (∀ W, Below w.heap.size w W → Calls Try.prog 32 #[.agg #[.slice a xs.length c]] W fun e w' => e = .returned (.tuple #[.int .i64 (leastP xs : Int), .bool true]) ∧ Below W.heap.size W w') := Lib.hid fun W hb => (G.out W hb).mono fun e w' ⟨h1, h2⟩ => ⟨by rw [h1, hk]; unfold cpZ; rw [if_pos hk], h2⟩
      rw [HR.out, ht]
      clear ht h2 hk F G
      generalize leastP xs = m at G2 hp ⊢
      go_enter Try.func39, Try.ntmps39
      go_wp2_with fail
      refine (F2.out _ (below_alloc _ _)).mono ?_
      rintro e w1 ⟨rfl, hb⟩
      have hc1 : w1.cell? ⟨w.heap.size, 0, none⟩ = some (.slice a xs.length c) := (hb.cell (p := ⟨w.heap.size, 0, none⟩) (by simp)).trans (cell_new _ _ _)
      have HB := Lib.hid ((below_alloc w (.cells #[.slice a xs.length c] 32)).trans (hb.mono (by simp)))
      clear hb
      go_wp2_with fail
      refine (G2.out _ HB.out).mono ?_
      rintro e w2 ⟨rfl, hb⟩
      have HB2 := Lib.hid (HB.out.trans (hb.mono HB.out.size))
      clear hb hc1
      by_cases hm : (2 : Int) ≤ (m : Int)
      · have HD := Lib.hid (decide_eq_true hm)
        go_wp2
        go_ret2
        exact ⟨by rw [HD.out]; rfl, HB2.out⟩
      · have HD := Lib.hid (decide_eq_false hm)
        go_wp2
        go_ret2
        exact ⟨by rw [HD.out]; rfl, HB2.out⟩
    · have hk : cpOk xs = false := by rw [Bool.eq_false_iff]; exact fun e => h2 (cpOk_iff.1 e).2
      have HR : Hid (safeR xs = true) := Lib.hid (by unfold safeR lpN; rw [ht, if_neg h2]; rfl)
      have G2 : Hid (∀ W, Below w.heap.size w W → Calls Try.prog 32 #[.agg #[.slice a xs.length c]] W fun e w' => e = .returned (.tuple #[.int .i64 0, .bool false]) ∧ Below W.heap.size W w') := Lib.hid fun W hb => (G.out W hb).mono fun e w' ⟨h1, h2⟩ => ⟨by rw [h1, hk]; unfold cpZ; rw [if_neg (by rw [hk]; simp)], h2⟩
      rw [HR.out, ht]
      clear ht h2 hk F G
      go_enter Try.func39, Try.ntmps39
      go_wp2_with fail
      refine (F2.out _ (below_alloc _ _)).mono ?_
      rintro e w1 ⟨rfl, hb⟩
      have hc1 : w1.cell? ⟨w.heap.size, 0, none⟩ = some (.slice a xs.length c) := (hb.cell (p := ⟨w.heap.size, 0, none⟩) (by simp)).trans (cell_new _ _ _)
      have HB := Lib.hid ((below_alloc w (.cells #[.slice a xs.length c] 32)).trans (hb.mono (by simp)))
      clear hb
      go_wp2_with fail
      refine (G2.out _ HB.out).mono ?_
      rintro e w2 ⟨rfl, hb⟩
      have HB2 := Lib.hid (HB.out.trans (hb.mono HB.out.size))
      clear hb hc1
      go_wp2
      go_ret2
      exact ⟨rfl, HB2.out⟩
  · have F2 := Lib.hid fun W hb => val_eq (v' := .bool false) (F.out W hb) (by simp [ht])
    have ht' : tableB xs = false := by simpa using ht
    have HR : Hid (safeR xs = false) := Lib.hid (by unfold safeR; rw [ht']; rfl)
    rw [HR.out, ht']
    clear ht ht' F
    go_enter Try.func39, Try.ntmps39
    go_wp2_with fail
    refine (F2.out _ (below_alloc _ _)).mono ?_
    rintro e w1 ⟨rfl, hb⟩
    have HB := Lib.hid ((below_alloc w (.cells #[.slice a xs.length c] 32)).trans (hb.mono (by simp)))
    clear hb
    go_wp2
    go_ret2
    exact ⟨rfl, HB.out⟩
theorem half_facts (n : Nat) (h : n ≤ 1000) : Int.tdiv (n : Int) 2 = ((n / 2 : Nat) : Int) := by
  rw [Int.tdiv_eq_ediv_of_nonneg (by omega)]; omega
theorem canRepair_any (a : Option Addr) (b o c : Nat) (xs : List ByteArray) (w : World) (h : ListIn w a b o xs) :
    Calls Try.prog 41 #[.agg #[.slice a xs.length c]] w fun e w' => e = .returned (.tuple #[.int .i64 (repZ xs), .bool (cpOk xs)]) ∧ Below w.heap.size w w' := by
  have hl := h.len
  have G := Lib.hid fun W hb => leastDistance_any a b o c xs W (h.below (w' := W) hb)
  clear h
  by_cases hk : cpOk xs = true
  · have hp := leastP_pos (cpOk_iff.1 hk).1 (cpOk_iff.1 hk).2
    obtain ⟨m, hm⟩ : ∃ m, leastP xs = m + 1 := ⟨leastP xs - 1, by omega⟩
    have HR : Hid (repZ xs = ((m / 2 : Nat) : Int)) := Lib.hid (by unfold repZ; rw [if_pos hk, hm]; rfl)
    have G2 : Hid (∀ W, Below w.heap.size w W → Calls Try.prog 32 #[.agg #[.slice a xs.length c]] W fun e w' => e = .returned (.tuple #[.int .i64 ((m : Int) + 1), .bool true]) ∧ Below W.heap.size W w') := Lib.hid fun W hb => (G.out W hb).mono fun e w' ⟨h1, h2⟩ => ⟨by rw [h1, hk]; unfold cpZ; rw [if_pos hk, hm]; rfl, h2⟩
    have hm4 : m ≤ 4 := by omega
    rw [HR.out, hk]
    clear hk hm hp G
    have e1 : (m : Int) + 1 - 1 = (m : Int) := by omega
    have HQ := Lib.hid (half_facts m (by omega))
    go_enter Try.func41, Try.ntmps41
    go_wp2_with fail
    refine (G2.out _ (below_alloc _ _)).mono ?_
    rintro e w1 ⟨rfl, hb⟩
    have HB := Lib.hid ((below_alloc w (.cells #[.slice a xs.length c] 32)).trans (hb.mono (by simp)))
    clear hb
    go_wp2
    go_ret2
    exact ⟨by first | rfl | (rw [← HQ.out]; rfl), HB.out⟩
  · have hk' : cpOk xs = false := by simpa using hk
    have HR : Hid (repZ xs = 0) := Lib.hid (if_neg hk)
    have G2 : Hid (∀ W, Below w.heap.size w W → Calls Try.prog 32 #[.agg #[.slice a xs.length c]] W fun e w' => e = .returned (.tuple #[.int .i64 0, .bool false]) ∧ Below W.heap.size W w') := Lib.hid fun W hb => (G.out W hb).mono fun e w' ⟨h1, h2⟩ => ⟨by rw [h1, hk']; unfold cpZ; rw [if_neg hk], h2⟩
    rw [HR.out, hk']
    clear hk hk' G
    go_enter Try.func41, Try.ntmps41
    go_wp2_with fail
    refine (G2.out _ (below_alloc _ _)).mono ?_
    rintro e w1 ⟨rfl, hb⟩
    have HB := Lib.hid ((below_alloc w (.cells #[.slice a xs.length c] 32)).trans (hb.mono (by simp)))
    clear hb
    go_wp2
    go_ret2
    exact ⟨rfl, HB.out⟩
end Go.Proofs.Ytgdiffdpjpkleaa
