/-
  The way between two nodes: wayOf, wayOfLetters, JoinNode and WayBetween of the program, l9Join, l9Way, JoinNode and WayBetween of the model: both answer alike. Used by the claims on chapter 9.
-/
import Derived.Test.YtdphjnbelggcfaaNodW
import Derived.Test.YtdphjnbelggcfaaMarkB
namespace Go.Proofs.Ytdphjnbelggcfaa
open Go.RowKit Go.Maps Go.WideMaps
set_option linter.unusedVariables false

theorem wayOf_any (a b : Nat) (w : World) (ha : a ≤ 63) (hb : b ≤ 63) :
    Calls Try.prog 92 #[.int .i64 (a : Int), .int .i64 (b : Int)] w fun e w' => e = .returned (.tuple #[.int .i64 (((wayN a b).1 : Nat) : Int), .int .i64 (((wayN a b).2 : Nat) : Int)]) ∧ w' = w := by
  go_enter Try.func92, Try.ntmps92
  go_wp2
  go_loopw [0, 1, 6] (fun p q v wr => ∃ x y z : Nat, p = .int .i64 (x : Int) ∧ q = .int .i64 (y : Int) ∧ v = .int .i64 (z : Int) ∧ x ≤ 63 ∧ y ≤ 63 ∧ z + x + y ≤ a + b ∧ Hid (wayN a b = ((wayN x y).1, (wayN x y).2 + z)) ∧ wr = w) (fun p q _ _ => (intOf p).toNat + (intOf q).toNat)
  case atStart => exact ⟨a, b, 0, rfl, rfl, rfl, ha, hb, by omega, Lib.hid rfl, rfl⟩
  case round =>
    obtain ⟨x, y, z, rfl, rfl, rfl, hx, hy, hz, HW, rfl⟩ := hrel
    by_cases h : x = y
    · subst h
      have HE : Hid (wayN a b = (x, z)) := Lib.hid (by rw [HW.out, wayN_same]; simp)
      have e1 : ((x : Int) != (x : Int)) = false := by simp
      go_wp2
      go_ret2
      exact ⟨by rw [HE.out]; rfl, rfl⟩
    · have e1 : ((x : Int) != (y : Int)) = true := bne_iff_ne.2 (by omega)
      rcases Nat.lt_or_gt_of_ne h with hl | hl
      · have HN : Hid (wayN a b = ((wayN x (y / 2)).1, (wayN x (y / 2)).2 + (z + 1))) := Lib.hid (by rw [HW.out, wayN_lt hl]; simp; omega)
        have m1 : min (x : Int) (y : Int) = (x : Int) := by omega
        have m2 : max (x : Int) (y : Int) = (y : Int) := by omega
        go_wp2
        go_roundw
        case rel => exact ⟨x, y / 2, z + 1, by first | rfl | go_num, by first | rfl | go_num, by go_num, by omega, by omega, by omega, HN, by trivial⟩
        case measure => simp [intOf]; omega
      · have HN : Hid (wayN a b = ((wayN y (x / 2)).1, (wayN y (x / 2)).2 + (z + 1))) := Lib.hid (by rw [HW.out, wayN_gt hl, wayN_comm y]; simp; omega)
        have m1 : min (x : Int) (y : Int) = (y : Int) := by omega
        have m2 : max (x : Int) (y : Int) = (x : Int) := by omega
        go_wp2
        go_roundw
        case rel => exact ⟨y, x / 2, z + 1, by first | rfl | go_num, by first | rfl | go_num, by go_num, by omega, by omega, by omega, HN, by trivial⟩
        case measure => simp [intOf]; omega

/-! ### Two letters -/
def inB (xs : List ByteArray) (i : Int) : Bool := (marksR xs i).2
theorem inB_iff {xs : List ByteArray} {i : Int} : inB xs i = true ↔ tableB xs = true ∧ 0 ≤ i ∧ i < xs.length := by
  unfold inB marksR
  by_cases h : tableB xs = true ∧ 0 ≤ i ∧ i < xs.length
  · rw [if_pos h]; simp [h]
  · rw [if_neg h]; simp only [Bool.false_eq_true, false_iff]; exact h
theorem inB_at {xs : List ByteArray} {i : Int} (h : inB xs i = true) : ∃ (k : Nat) (x : ByteArray), i = (k : Int) ∧ k < xs.length ∧ xs[k]? = some x ∧ marksR xs i = (x, true) ∧ noneT x = true := by
  obtain ⟨h1, h2, h3⟩ := inB_iff.1 h
  obtain ⟨k, rfl⟩ : ∃ k : Nat, i = (k : Int) := ⟨i.toNat, by omega⟩
  have hk : k < xs.length := by omega
  refine ⟨k, xs[k], rfl, hk, List.getElem?_eq_getElem hk, ?_, noneT_marks (((tableB_iff xs).1 h1).2.1 _ (List.getElem_mem hk))⟩
  unfold marksR
  rw [if_pos ⟨h1, h2, h3⟩, Int.toNat_natCast, List.getD_eq_getElem?_getD, List.getElem?_eq_getElem hk]; rfl
def twoB (xs : List ByteArray) (i j : Int) : Bool := inB xs i && inB xs j
def wyR (xs : List ByteArray) (i j : Int) : Nat × Nat := if twoB xs i j = true then wayN (nd (bl (marksR xs i).1)) (nd (bl (marksR xs j).1)) else (0, 0)

set_option maxHeartbeats 1000000 in
theorem wayOfLetters_any (a : Option Addr) (b o c : Nat) (xs : List ByteArray) (i j : Int) (w : World) (h : ListIn w a b o xs) :
    Calls Try.prog 88 #[.agg #[.slice a xs.length c], .int .i64 i, .int .i64 j] w fun e w' => e = .returned (.tuple #[.int .i64 (((wyR xs i j).1 : Nat) : Int), .int .i64 (((wyR xs i j).2 : Nat) : Int), .bool (twoB xs i j)]) ∧ Below w.heap.size w w' := by
  have hl := h.len
  have F1 := Lib.hid fun W hb => marksOf_any a b o c xs i W (h.below (w' := W) hb)
  have F2 := Lib.hid fun W hb => marksOf_any a b o c xs j W (h.below (w' := W) hb)
  clear h
  cases ht : twoB xs i j with
  | true =>
    have h1 : inB xs i = true := by unfold twoB at ht; rw [Bool.and_eq_true] at ht; exact ht.1
    have h2 : inB xs j = true := by unfold twoB at ht; rw [Bool.and_eq_true] at ht; exact ht.2
    obtain ⟨k1, x, rfl, _, _, e1, n1⟩ := inB_at h1
    obtain ⟨k2, y, rfl, _, _, e2, n2⟩ := inB_at h2
    have HR : Hid (wyR xs k1 k2 = wayN (nd (bl x)) (nd (bl y))) := Lib.hid (by unfold wyR; rw [if_pos ht, e1, e2])
    rw [e1] at F1
    rw [e2] at F2
    have G1 := Lib.hid fun W => nodeOf_any x W n1
    have G2 := Lib.hid fun W => nodeOf_any y W n2
    have b1 : nd (bl x) ≤ 63 := nd_le (by rw [bl_len]; exact noneT_size n1)
    have b2 : nd (bl y) ≤ 63 := nd_le (by rw [bl_len]; exact noneT_size n2)
    have G3 := Lib.hid fun W => wayOf_any (nd (bl x)) (nd (bl y)) W b1 b2
    generalize nd (bl x) = m1 at *
    generalize nd (bl y) = m2 at *
    clear ht h1 h2 e1 e2 n1 n2
    go_enter Try.func88, Try.ntmps88
    go_wp2_with fail
    refine (F1.out _ (below_alloc _ _)).mono ?_
    rintro e w1 ⟨rfl, hb⟩
    have hc1 : w1.cell? ⟨w.heap.size, 0, none⟩ = some (.slice a xs.length c) := (hb.cell (p := ⟨w.heap.size, 0, none⟩) (by simp)).trans (cell_new _ _ _)
    have HB1 := Lib.hid ((below_alloc w (.cells #[.slice a xs.length c] 35)).trans (hb.mono (by simp)))
    clear hb
    go_wp2_with fail
    refine (F2.out _ HB1.out).mono ?_
    rintro e w2 ⟨rfl, hb⟩
    have HB2 := Lib.hid (HB1.out.trans (hb.mono HB1.out.size))
    clear hb hc1
    go_wp2_with fail
    refine (G1.out _).mono ?_
    rintro e w3 ⟨rfl, hb⟩
    have HB3 := Lib.hid (HB2.out.trans (hb.mono HB2.out.size))
    clear hb
    go_wp2_with fail
    refine (G2.out _).mono ?_
    rintro e w4 ⟨rfl, hb⟩
    have HB4 := Lib.hid (HB3.out.trans (hb.mono HB3.out.size))
    clear hb
    go_wp2_with fail
    refine (G3.out _).mono ?_
    rintro e w5 ⟨rfl, rfl⟩
    go_wp2
    go_ret3
    exact ⟨by rw [HR.out]; rfl, HB4.out⟩
  | false =>
    have HR : Hid (wyR xs i j = (0, 0)) := Lib.hid (by unfold wyR; rw [if_neg (by rw [ht]; decide)])
    have HT : Hid ((!(marksR xs i).2 || !(marksR xs j).2) = true) := Lib.hid (by
      unfold twoB inB at ht; cases h1 : (marksR xs i).2 <;> cases h2 : (marksR xs j).2 <;> simp_all)
    obtain ⟨x, q1, hx⟩ : ∃ x q1, marksR xs i = (x, q1) := ⟨_, _, rfl⟩
    obtain ⟨y, q2, hy⟩ : ∃ y q2, marksR xs j = (y, q2) := ⟨_, _, rfl⟩
    rw [hx] at F1 HT
    rw [hy] at F2 HT
    clear ht hx hy
    go_enter Try.func88, Try.ntmps88
    go_wp2_with fail
    refine (F1.out _ (below_alloc _ _)).mono ?_
    rintro e w1 ⟨rfl, hb⟩
    have hc1 : w1.cell? ⟨w.heap.size, 0, none⟩ = some (.slice a xs.length c) := (hb.cell (p := ⟨w.heap.size, 0, none⟩) (by simp)).trans (cell_new _ _ _)
    have HB1 := Lib.hid ((below_alloc w (.cells #[.slice a xs.length c] 35)).trans (hb.mono (by simp)))
    clear hb
    go_wp2_with fail
    refine (F2.out _ HB1.out).mono ?_
    rintro e w2 ⟨rfl, hb⟩
    have HB2 := Lib.hid (HB1.out.trans (hb.mono HB1.out.size))
    clear hb hc1
    cases q1
    · go_wp2
      go_ret3
      exact ⟨by rw [HR.out]; rfl, HB2.out⟩
    · cases q2
      · go_wp2
        go_ret3
        exact ⟨by rw [HR.out]; rfl, HB2.out⟩
      · have := HT.out; cases this

theorem joinNode_any (a : Option Addr) (b o c : Nat) (xs : List ByteArray) (i j : Int) (w : World) (h : ListIn w a b o xs) :
    Calls Try.prog 38 #[.agg #[.slice a xs.length c], .int .i64 i, .int .i64 j] w fun e w' => e = .returned (.tuple #[.int .i64 (((wyR xs i j).1 : Nat) : Int), .bool (twoB xs i j)]) ∧ Below w.heap.size w w' := by
  have hl := h.len
  have F := Lib.hid fun W hb => wayOfLetters_any a b o c xs i j W (h.below (w' := W) hb)
  clear h
  go_enter Try.func38, Try.ntmps38
  go_wp2_with fail
  refine (F.out _ (below_alloc _ _)).mono ?_
  rintro e w1 ⟨rfl, hb⟩
  have HB := Lib.hid ((below_alloc w (.cells #[.slice a xs.length c] 35)).trans (hb.mono (by simp)))
  clear hb
  go_wp2
  go_ret2
  exact ⟨rfl, HB.out⟩
theorem wayBetween_any (a : Option Addr) (b o c : Nat) (xs : List ByteArray) (i j : Int) (w : World) (h : ListIn w a b o xs) :
    Calls Try.prog 40 #[.agg #[.slice a xs.length c], .int .i64 i, .int .i64 j] w fun e w' => e = .returned (.tuple #[.int .i64 (((wyR xs i j).2 : Nat) : Int), .bool (twoB xs i j)]) ∧ Below w.heap.size w w' := by
  have hl := h.len
  have F := Lib.hid fun W hb => wayOfLetters_any a b o c xs i j W (h.below (w' := W) hb)
  clear h
  go_enter Try.func40, Try.ntmps40
  go_wp2_with fail
  refine (F.out _ (below_alloc _ _)).mono ?_
  rintro e w1 ⟨rfl, hb⟩
  have HB := Lib.hid ((below_alloc w (.cells #[.slice a xs.length c] 35)).trans (hb.mono (by simp)))
  clear hb
  go_wp2
  go_ret2
  exact ⟨rfl, HB.out⟩
end Go.Proofs.Ytdphjnbelggcfaa
