/-
  The way between two nodes: the model's l9Join, l9Way, l9Letters, JoinNode, WayBetween: they answer as the program's. Used by the claims on chapter 9.
-/
import Derived.Test.YtdphjnbelggcfaaWyW
namespace Go.Proofs.Ytdphjnbelggcfaa
open Go.RowKit Go.Maps Go.WideMaps
set_option linter.unusedVariables false

theorem sJoin_any (a b : Nat) (w : World) (ha : a ≤ 63) (hb : b ≤ 63) :
    Calls Try.prog 87 #[.int .i64 (a : Int), .int .i64 (b : Int)] w fun e w' => e = .returned (.int .i64 (((wayN a b).1 : Nat) : Int)) ∧ w' = w := by
  go_enter Try.func87, Try.ntmps87
  go_wp2
  go_loopw [0, 1] (fun p q wr => ∃ x y : Nat, p = .int .i64 (x : Int) ∧ q = .int .i64 (y : Int) ∧ x ≤ 63 ∧ y ≤ 63 ∧ Hid ((wayN a b).1 = (wayN x y).1) ∧ wr = w) (fun p q _ => (intOf p).toNat + (intOf q).toNat)
  case atStart => exact ⟨a, b, rfl, rfl, ha, hb, Lib.hid rfl, rfl⟩
  case round =>
    obtain ⟨x, y, rfl, rfl, hx, hy, HW, rfl⟩ := hrel
    by_cases h : x = y
    · subst h
      have HE : Hid ((wayN a b).1 = x) := Lib.hid (by rw [HW.out, wayN_same])
      have e1 : ((x : Int) != (x : Int)) = false := by simp
      go_wp2
      go_ret
      exact ⟨by rw [HE.out]; rfl, rfl⟩
    · have e1 : ((x : Int) != (y : Int)) = true := bne_iff_ne.2 (by omega)
      rcases Nat.lt_or_gt_of_ne h with hl | hl
      · have HN : Hid ((wayN a b).1 = (wayN x (y / 2)).1) := Lib.hid (by rw [HW.out, wayN_lt hl])
        have m1 : ¬ (y : Int) < (x : Int) := by omega
        have m2 : decide ((y : Int) < (x : Int)) = false := decide_eq_false m1
        go_wp2
        go_roundw
        case rel => exact ⟨x, y / 2, by first | rfl | go_num, by first | rfl | go_num, by omega, by omega, HN, by trivial⟩
        case measure => simp [intOf]; omega
      · have HN : Hid ((wayN a b).1 = (wayN (x / 2) y).1) := Lib.hid (by rw [HW.out, wayN_gt hl])
        have m1 : (y : Int) < (x : Int) := by omega
        have m2 : decide ((y : Int) < (x : Int)) = true := decide_eq_true m1
        go_wp2
        go_roundw
        case rel => exact ⟨x / 2, y, by first | rfl | go_num, by first | rfl | go_num, by omega, by omega, HN, by trivial⟩
        case measure => simp [intOf]; omega
theorem sWay_any (a b : Nat) (w : World) (ha : a ≤ 63) (hb : b ≤ 63) :
    Calls Try.prog 89 #[.int .i64 (a : Int), .int .i64 (b : Int)] w fun e w' => e = .returned (.int .i64 (((wayN a b).2 : Nat) : Int)) ∧ w' = w := by
  go_enter Try.func89, Try.ntmps89
  go_wp2
  go_loopw [0, 1, 5] (fun p q v wr => ∃ x y z : Nat, p = .int .i64 (x : Int) ∧ q = .int .i64 (y : Int) ∧ v = .int .i64 (z : Int) ∧ x ≤ 63 ∧ y ≤ 63 ∧ z + x + y ≤ a + b ∧ Hid ((wayN a b).2 = (wayN x y).2 + z) ∧ wr = w) (fun p q _ _ => (intOf p).toNat + (intOf q).toNat)
  case atStart => exact ⟨a, b, 0, rfl, rfl, rfl, ha, hb, by omega, Lib.hid rfl, rfl⟩
  case round =>
    obtain ⟨x, y, z, rfl, rfl, rfl, hx, hy, hz, HW, rfl⟩ := hrel
    by_cases h : x = y
    · subst h
      have HE : Hid ((wayN a b).2 = z) := Lib.hid (by rw [HW.out, wayN_same]; simp)
      have e1 : ((x : Int) != (x : Int)) = false := by simp
      go_wp2
      go_ret
      exact ⟨by rw [HE.out]; rfl, rfl⟩
    · have e1 : ((x : Int) != (y : Int)) = true := bne_iff_ne.2 (by omega)
      rcases Nat.lt_or_gt_of_ne h with hl | hl
      · have HN : Hid ((wayN a b).2 = (wayN x (y / 2)).2 + (z + 1)) := Lib.hid (by rw [HW.out, wayN_lt hl]; simp; omega)
        have m1 : ¬ (y : Int) < (x : Int) := by omega
        have m2 : decide ((y : Int) < (x : Int)) = false := decide_eq_false m1
        go_wp2
        go_roundw
        case rel => exact ⟨x, y / 2, z + 1, by first | rfl | go_num, by first | rfl | go_num, by go_num, by omega, by omega, by omega, HN, by trivial⟩
        case measure => simp [intOf]; omega
      · have HN : Hid ((wayN a b).2 = (wayN (x / 2) y).2 + (z + 1)) := Lib.hid (by rw [HW.out, wayN_gt hl]; simp; omega)
        have m1 : (y : Int) < (x : Int) := by omega
        have m2 : decide ((y : Int) < (x : Int)) = true := decide_eq_true m1
        go_wp2
        go_roundw
        case rel => exact ⟨x / 2, y, z + 1, by first | rfl | go_num, by first | rfl | go_num, by go_num, by omega, by omega, by omega, HN, by trivial⟩
        case measure => simp [intOf]; omega

theorem sLetters_any (a : Option Addr) (b o c : Nat) (xs : List ByteArray) (i j : Int) (w : World) (h : ListIn w a b o xs) :
    Calls Try.prog 86 #[.agg #[.slice a xs.length c], .int .i64 i, .int .i64 j] w fun e w' => e = .returned (.bool (twoB xs i j)) ∧ Below w.heap.size w w' := by
  have hl := h.len
  have F := Lib.hid fun W hb => stable_any a b o c xs W (h.below (w' := W) hb)
  clear h
  by_cases ht : tableB xs = true
  · have F2 := Lib.hid fun W hb => val_eq (v' := .bool true) (F.out W hb) (by rw [ht])
    have h1n := ((tableB_iff xs).1 ht).1.1
    have I1 := Lib.hid fun w => in_any i 0 ((xs.length : Int) - 1) w
    have I2 := Lib.hid fun w => in_any j 0 ((xs.length : Int) - 1) w
    have HI : Hid (∀ k : Int, (decide (0 ≤ k) && decide (k ≤ (xs.length : Int) - 1)) = inB xs k) := Lib.hid fun k => by
      rw [Bool.eq_iff_iff, inB_iff, Bool.and_eq_true, decide_eq_true_eq, decide_eq_true_eq]
      constructor
      · intro ⟨u, v⟩; exact ⟨ht, u, by omega⟩
      · intro ⟨_, u, v⟩; exact ⟨u, by omega⟩
    rw [HI.out] at I1 I2
    have HR : Hid (twoB xs i j = (inB xs i && inB xs j)) := Lib.hid rfl
    generalize inB xs i = q1 at I1 HR
    generalize inB xs j = q2 at I2 HR
    clear ht F HI
    rw [HR.out]
    cases q1
    · go_enter Try.func86, Try.ntmps86
      go_wp2_with fail
      refine (F2.out _ (below_alloc _ _)).mono ?_
      rintro e w1 ⟨rfl, hb⟩
      have hc1 : w1.cell? ⟨w.heap.size, 0, none⟩ = some (.slice a xs.length c) := (hb.cell (p := ⟨w.heap.size, 0, none⟩) (by simp)).trans (cell_new _ _ _)
      have HB1 := Lib.hid ((below_alloc w (.cells #[.slice a xs.length c] 35)).trans (hb.mono (by simp)))
      clear hb
      go_wp2_with fail
      refine (I1.out _).mono ?_
      rintro e w2 ⟨rfl, rfl⟩
      go_wp2
      go_ret
      exact ⟨rfl, HB1.out⟩
    · go_enter Try.func86, Try.ntmps86
      go_wp2_with fail
      refine (F2.out _ (below_alloc _ _)).mono ?_
      rintro e w1 ⟨rfl, hb⟩
      have hc1 : w1.cell? ⟨w.heap.size, 0, none⟩ = some (.slice a xs.length c) := (hb.cell (p := ⟨w.heap.size, 0, none⟩) (by simp)).trans (cell_new _ _ _)
      have HB1 := Lib.hid ((below_alloc w (.cells #[.slice a xs.length c] 35)).trans (hb.mono (by simp)))
      clear hb
      go_wp2_with fail
      refine (I1.out _).mono ?_
      rintro e w2 ⟨rfl, rfl⟩
      go_wp2_with fail
      refine (I2.out _).mono ?_
      rintro e w3 ⟨rfl, rfl⟩
      go_wp2
      go_ret
      exact ⟨rfl, HB1.out⟩
  · have F2 := Lib.hid fun W hb => val_eq (v' := .bool false) (F.out W hb) (by simp [ht])
    have HR : Hid (twoB xs i j = false) := Lib.hid (by
      rw [Bool.eq_false_iff]; intro h; unfold twoB at h; rw [Bool.and_eq_true] at h; exact ht (inB_iff.1 h.1).1)
    clear ht F
    rw [HR.out]
    go_enter Try.func86, Try.ntmps86
    go_wp2_with fail
    refine (F2.out _ (below_alloc _ _)).mono ?_
    rintro e w1 ⟨rfl, hb⟩
    have HB1 := Lib.hid ((below_alloc w (.cells #[.slice a xs.length c] 35)).trans (hb.mono (by simp)))
    clear hb
    go_wp2
    go_ret
    exact ⟨rfl, HB1.out⟩

set_option maxHeartbeats 1000000 in
theorem sJoinNode_any (a : Option Addr) (b o c : Nat) (xs : List ByteArray) (i j : Int) (w : World) (h : ListIn w a b o xs) :
    Calls Try.prog 37 #[.agg #[.slice a xs.length c], .int .i64 i, .int .i64 j] w fun e w' => e = .returned (.tuple #[.int .i64 (((wyR xs i j).1 : Nat) : Int), .bool (twoB xs i j)]) ∧ Below w.heap.size w w' := by
  have hl := h.len
  have F := Lib.hid fun W hb => sLetters_any a b o c xs i j W (h.below (w' := W) hb)
  have HS := Lib.hid h
  clear h
  cases ht : twoB xs i j with
  | true =>
    have h1 : inB xs i = true := by unfold twoB at ht; rw [Bool.and_eq_true] at ht; exact ht.1
    have h2 : inB xs j = true := by unfold twoB at ht; rw [Bool.and_eq_true] at ht; exact ht.2
    obtain ⟨k1, x, rfl, l1, hx, e1, n1⟩ := inB_at h1
    obtain ⟨k2, y, rfl, l2, hy, e2, n2⟩ := inB_at h2
    have HR : Hid (wyR xs k1 k2 = wayN (nd (bl x)) (nd (bl y))) := Lib.hid (by unfold wyR; rw [if_pos ht, e1, e2])
    have G1 := Lib.hid fun W => sNode_any x W n1
    have G2 := Lib.hid fun W => sNode_any y W n2
    have b1 : nd (bl x) ≤ 63 := nd_le (by rw [bl_len]; exact noneT_size n1)
    have b2 : nd (bl y) ≤ 63 := nd_le (by rw [bl_len]; exact noneT_size n2)
    have G3 := Lib.hid fun W => sJoin_any (nd (bl x)) (nd (bl y)) W b1 b2
    rw [ht] at F
    obtain rfl := HS.out.src.1 (by omega)
    have HC1 := Lib.hid fun w1 hb => (HS.out.below (w' := w1) hb).src.2 k1 _ hx
    have HC2 := Lib.hid fun w1 hb => (HS.out.below (w' := w1) hb).src.2 k2 _ hy
    generalize nd (bl x) = m1 at *
    generalize nd (bl y) = m2 at *
    clear ht h1 h2 e1 e2 n1 n2 hx hy
    have i1 : (0 : Int) ≤ (k1 : Int) := by omega
    have i2 : (k1 : Int) < (xs.length : Int) := by omega
    have i3 : (0 : Int) ≤ (k2 : Int) := by omega
    have i4 : (k2 : Int) < (xs.length : Int) := by omega
    go_enter Try.func37, Try.ntmps37
    go_wp2_with fail
    refine (F.out _ (below_alloc _ _)).mono ?_
    rintro e w1 ⟨rfl, hb⟩
    have hc1 : w1.cell? ⟨w.heap.size, 0, none⟩ = some (.slice (some ⟨b, o, none⟩) xs.length c) := (hb.cell (p := ⟨w.heap.size, 0, none⟩) (by simp)).trans (cell_new _ _ _)
    have HB1 := Lib.hid ((below_alloc w (.cells #[.slice (some ⟨b, o, none⟩) xs.length c] 35)).trans (hb.mono (by simp)))
    have hcx := HC1.out w1 HB1.out
    have hcy := HC2.out w1 HB1.out
    clear hb
    go_wp2
    go_quiet ((first | (go_at_call 72; first | with_reducible exact Calls.quiet_of_same (G1.out _) | with_reducible exact Calls.quiet_of_same (G2.out _)) | (go_at_call 87; exact Calls.quiet_of_same (G3.out _))))
    go_wp2
    go_ret2
    exact ⟨by rw [HR.out]; rfl, below_drewN' HB1.out⟩
  | false =>
    have HR : Hid (wyR xs i j = (0, 0)) := Lib.hid (by unfold wyR; rw [if_neg (by rw [ht]; decide)])
    rw [ht] at F
    clear ht
    go_enter Try.func37, Try.ntmps37
    go_wp2_with fail
    refine (F.out _ (below_alloc _ _)).mono ?_
    rintro e w1 ⟨rfl, hb⟩
    have HB1 := Lib.hid ((below_alloc w (.cells #[.slice a xs.length c] 35)).trans (hb.mono (by simp)))
    clear hb
    go_wp2
    go_ret2
    exact ⟨by rw [HR.out]; rfl, HB1.out⟩
theorem joinNode_both (xs : List ByteArray) (i j : Int) (hl : xs.length ≤ 1048576) (ht : ∀ x ∈ xs, x.size ≤ 1048576) (hi : (Lit.int .i64 i).wf = true) (hj : (Lit.int .i64 j).wf = true) : ∃ (R0 : Int) (R1 : Bool),
    Hid (∀ W a b o c, ListIn W a b o xs → Calls Try.prog 37 #[.agg #[.slice a xs.length c], .int .i64 i, .int .i64 j] W fun e W' => e = .returned (.tuple #[.int .i64 R0, .bool R1]) ∧ Below W.heap.size W W') ∧
    Hid (∀ W a b o c, ListIn W a b o xs → Calls Try.prog 38 #[.agg #[.slice a xs.length c], .int .i64 i, .int .i64 j] W fun e W' => e = .returned (.tuple #[.int .i64 R0, .bool R1]) ∧ Below W.heap.size W W') :=
  ⟨_, _, fun W a b o c h => sJoinNode_any a b o c xs i j W h, fun W a b o c h => joinNode_any a b o c xs i j W h⟩

set_option maxHeartbeats 1000000 in
theorem sWayBetween_any (a : Option Addr) (b o c : Nat) (xs : List ByteArray) (i j : Int) (w : World) (h : ListIn w a b o xs) :
    Calls Try.prog 39 #[.agg #[.slice a xs.length c], .int .i64 i, .int .i64 j] w fun e w' => e = .returned (.tuple #[.int .i64 (((wyR xs i j).2 : Nat) : Int), .bool (twoB xs i j)]) ∧ Below w.heap.size w w' := by
  have hl := h.len
  have F := Lib.hid fun W hb => sLetters_any a b o c xs i j W (h.below (w' := W) hb)
  have HS := Lib.hid h
  clear h
  cases ht : twoB xs i j with
  | true =>
    have h1 : inB xs i = true := by unfold twoB at ht; rw [Bool.and_eq_true] at ht; exact ht.1
    have h2 : inB xs j = true := by unfold twoB at ht; rw [Bool.and_eq_true] at ht; exact ht.2
    obtain ⟨k1, x, rfl, l1, hx, e1, n1⟩ := inB_at h1
    obtain ⟨k2, y, rfl, l2, hy, e2, n2⟩ := inB_at h2
    have HR : Hid (wyR xs k1 k2 = wayN (nd (bl x)) (nd (bl y))) := Lib.hid (by unfold wyR; rw [if_pos ht, e1, e2])
    have G1 := Lib.hid fun W => sNode_any x W n1
    have G2 := Lib.hid fun W => sNode_any y W n2
    have b1 : nd (bl x) ≤ 63 := nd_le (by rw [bl_len]; exact noneT_size n1)
    have b2 : nd (bl y) ≤ 63 := nd_le (by rw [bl_len]; exact noneT_size n2)
    have G3 := Lib.hid fun W => sWay_any (nd (bl x)) (nd (bl y)) W b1 b2
    rw [ht] at F
    obtain rfl := HS.out.src.1 (by omega)
    have HC1 := Lib.hid fun w1 hb => (HS.out.below (w' := w1) hb).src.2 k1 _ hx
    have HC2 := Lib.hid fun w1 hb => (HS.out.below (w' := w1) hb).src.2 k2 _ hy
    generalize nd (bl x) = m1 at *
    generalize nd (bl y) = m2 at *
    clear ht h1 h2 e1 e2 n1 n2 hx hy
    have i1 : (0 : Int) ≤ (k1 : Int) := by omega
    have i2 : (k1 : Int) < (xs.length : Int) := by omega
    have i3 : (0 : Int) ≤ (k2 : Int) := by omega
    have i4 : (k2 : Int) < (xs.length : Int) := by omega
    go_enter Try.func39, Try.ntmps39
    go_wp2_with fail
    refine (F.out _ (below_alloc _ _)).mono ?_
    rintro e w1 ⟨rfl, hb⟩
    have hc1 : w1.cell? ⟨w.heap.size, 0, none⟩ = some (.slice (some ⟨b, o, none⟩) xs.length c) := (hb.cell (p := ⟨w.heap.size, 0, none⟩) (by simp)).trans (cell_new _ _ _)
    have HB1 := Lib.hid ((below_alloc w (.cells #[.slice (some ⟨b, o, none⟩) xs.length c] 35)).trans (hb.mono (by simp)))
    have hcx := HC1.out w1 HB1.out
    have hcy := HC2.out w1 HB1.out
    clear hb
    go_wp2
    go_quiet ((first | (go_at_call 72; first | with_reducible exact Calls.quiet_of_same (G1.out _) | with_reducible exact Calls.quiet_of_same (G2.out _)) | (go_at_call 89; exact Calls.quiet_of_same (G3.out _))))
    go_wp2
    go_ret2
    exact ⟨by rw [HR.out]; rfl, below_drewN' HB1.out⟩
  | false =>
    have HR : Hid (wyR xs i j = (0, 0)) := Lib.hid (by unfold wyR; rw [if_neg (by rw [ht]; decide)])
    rw [ht] at F
    clear ht
    go_enter Try.func39, Try.ntmps39
    go_wp2_with fail
    refine (F.out _ (below_alloc _ _)).mono ?_
    rintro e w1 ⟨rfl, hb⟩
    have HB1 := Lib.hid ((below_alloc w (.cells #[.slice a xs.length c] 35)).trans (hb.mono (by simp)))
    clear hb
    go_wp2
    go_ret2
    exact ⟨by rw [HR.out]; rfl, HB1.out⟩
theorem wayBetween_both (xs : List ByteArray) (i j : Int) (hl : xs.length ≤ 1048576) (ht : ∀ x ∈ xs, x.size ≤ 1048576) (hi : (Lit.int .i64 i).wf = true) (hj : (Lit.int .i64 j).wf = true) : ∃ (R0 : Int) (R1 : Bool),
    Hid (∀ W a b o c, ListIn W a b o xs → Calls Try.prog 39 #[.agg #[.slice a xs.length c], .int .i64 i, .int .i64 j] W fun e W' => e = .returned (.tuple #[.int .i64 R0, .bool R1]) ∧ Below W.heap.size W W') ∧
    Hid (∀ W a b o c, ListIn W a b o xs → Calls Try.prog 40 #[.agg #[.slice a xs.length c], .int .i64 i, .int .i64 j] W fun e W' => e = .returned (.tuple #[.int .i64 R0, .bool R1]) ∧ Below W.heap.size W W') :=
  ⟨_, _, fun W a b o c h => sWayBetween_any a b o c xs i j W h, fun W a b o c h => wayBetween_any a b o c xs i j W h⟩
end Go.Proofs.Ytdphjnbelggcfaa
