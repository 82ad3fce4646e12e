/-
  CountTables, the program's and the model's: both answer alike. Used by the claims on chapter 9.
-/
import Derived.Test.YtdphjnbelggcfaaCtW
namespace Go.Proofs.Ytdphjnbelggcfaa
open Go.RowKit Go.Maps Go.WideMaps
set_option linter.unusedVariables false

def sizeB (l m : Int) : Bool := (decide (1 ≤ l) && decide (l ≤ 10)) && limB m
theorem sizeB_at {l m : Int} (h : sizeB l m = true) : ∃ n k L : Nat, l = (n : Int) ∧ 1 ≤ n ∧ n ≤ 10 ∧ m = (k : Int) ∧ OfM k L := by
  unfold sizeB at h
  simp only [Bool.and_eq_true, decide_eq_true_eq] at h
  obtain ⟨k, L, e, hO⟩ := limB_at h.2
  exact ⟨l.toNat, k, L, by omega, by omega, by omega, e, hO⟩
def leftN (m : Int) : Nat := 2 ^ (m.toNat + 1) - 2
theorem leftN_of {k L : Nat} (h : OfM k L) : leftN (k : Int) = L := by
  unfold leftN
  rw [Int.toNat_natCast]
  have := h.le
  omega
def ctR (l m : Int) : Int := if sizeB l m = true then ((manyN l.toNat (leftN m) : Nat) : Int) else 0
/-- One factor more. -/
theorem many_mul {k L : Nat} (hk : k + 1 ≤ 10) (hL : L ≤ 62) : ((manyN k L : Nat) : Int) * ((L : Int) - (k : Int)) = ((manyN (k + 1) L : Nat) : Int) := by
  rw [manyN_snoc]
  by_cases h : k ≤ L
  · rw [Int.natCast_mul, Int.ofNat_sub h]
  · rw [manyN_zero k L (by omega)]; simp
theorem many_mul2 {k L : Nat} (hk : k + 1 ≤ 10) (hL : L ≤ 62) : ((manyN k L : Nat) : Int) * (if 0 > ((L : Int) - (k : Int)) then 0 else (L : Int) - (k : Int)) = ((manyN (k + 1) L : Nat) : Int) := by
  rw [← many_mul hk hL]
  by_cases h : k ≤ L
  · rw [if_neg (by omega)]
  · rw [if_pos (by omega), manyN_zero k L (by omega)]; simp
theorem wrap_many {z : Int} {c : Nat} (e : z = (c : Int)) (h : c ≤ 839299365868340224) : IntKind.i64.wrap z = (c : Int) ∧ wrap64 z = (c : Int) := by
  subst e
  exact ⟨IntWalk.i64_in _ (by omega), IntWalk.wrap64_in _ (by omega)⟩

set_option maxHeartbeats 1000000 in
theorem countTables_any (l m : Int) (w : World) :
    Calls Try.prog 49 #[.int .i64 l, .int .i64 m] w fun e w' => e = .returned (.tuple #[.int .i64 (ctR l m), .bool (sizeB l m)]) ∧ Below w.heap.size w w' := by
  cases hs : sizeB l m with
  | true =>
    obtain ⟨n, k, L, rfl, n1, n2, rfl, hO⟩ := sizeB_at hs
    have HR : Hid (ctR n k = ((manyN n L : Nat) : Int)) := Lib.hid (by unfold ctR; rw [if_pos hs, leftN_of hO, Int.toNat_natCast])
    have hLi : limB (k : Int) = true := limB_iff.2 (by have := hO.le; omega)
    have F := Lib.hid fun w => isLimit_any (k : Int) w
    rw [hLi] at F
    have G := Lib.hid fun w => nodesWithin_any k L hO w
    have hL := hO.le
    have q1 : ¬ (n : Int) < 1 := by omega
    have q2 : ¬ (10 : Int) < (n : Int) := by omega
    have q3 : decide ((n : Int) < 1) = false := decide_eq_false q1
    have q4 : decide ((10 : Int) < (n : Int)) = false := decide_eq_false q2
    obtain ⟨_, _, hL2, hL62, _⟩ := hL
    clear hs hO hLi
    go_enter Try.func49, Try.ntmps49
    go_wp2_with fail
    refine (F.out _).mono ?_
    rintro e w1 ⟨rfl, rfl⟩
    go_wp2_with fail
    refine (G.out _).mono ?_
    rintro e w2 ⟨g, cp, rfl, _, hb⟩
    have HB := Lib.hid hb
    clear hb q1 q2 q3 q4
    go_wp2
    go_loopw [6, 24] (fun cv v wr => ∃ i : Nat, v = .int .i64 (i : Int) ∧ cv = .int .i64 ((manyN i L : Nat) : Int) ∧ i ≤ n ∧ wr = w2) (fun _ v _ => n - (intOf v).toNat)
    case atStart => exact ⟨0, rfl, rfl, Nat.zero_le _, rfl⟩
    case round =>
      obtain ⟨i, rfl, rfl, hi, hwr⟩ := hrel
      subst hwr
      by_cases hlt : i < n
      · obtain ⟨e1, e2⟩ := wrap_many (many_mul (k := i) (L := L) (by omega) hL62) (manyN_62 (by omega) hL62)
        obtain ⟨c1, hc1⟩ : ∃ c1, manyN (i + 1) L = c1 := ⟨_, rfl⟩
        have HC := Lib.hid hc1
        rw [hc1] at e1 e2
        clear hc1
        generalize manyN i L = c0 at e1 e2
        go_wp2
        go_roundw
        case rel => exact ⟨i + 1, by go_num, by rw [HC.out], by omega, by trivial⟩
        case measure => simp [intOf]; omega
      · obtain rfl : i = n := by omega
        go_wp2
        go_ret2
        exact ⟨by rw [HR.out]; rfl, HB.out⟩
  | false =>
    have HR : Hid (ctR l m = 0) := Lib.hid (by unfold ctR; rw [if_neg (by rw [hs]; decide)])
    by_cases h1 : l < 1
    · clear hs
      go_enter Try.func49, Try.ntmps49
      go_wp2
      go_ret2
      exact ⟨by rw [HR.out]; rfl, Below.refl _ _⟩
    · by_cases h2 : 10 < l
      · clear hs
        go_enter Try.func49, Try.ntmps49
        go_wp2
        go_ret2
        exact ⟨by rw [HR.out]; rfl, Below.refl _ _⟩
      · have hLi : limB m = false := by
          cases h3 : limB m with
          | false => rfl
          | true =>
            have : sizeB l m = true := by unfold sizeB; rw [h3]; simp; omega
            rw [this] at hs; cases hs
        have F := Lib.hid fun w => isLimit_any m w
        rw [hLi] at F
        clear hs hLi
        go_enter Try.func49, Try.ntmps49
        go_wp2_with fail
        refine (F.out _).mono ?_
        rintro e w1 ⟨rfl, rfl⟩
        go_wp2
        go_ret2
        exact ⟨by rw [HR.out]; rfl, Below.refl _ _⟩

/-! ### The model's -/
theorem sLeft_any (k L : Nat) (h : OfM k L) (w : World) : Calls Try.prog 100 #[.int .i64 (k : Int)] w fun e w' => e = .returned (.int .i64 (L : Int)) ∧ w' = w := by
  rcases h with ⟨rfl, rfl⟩ | ⟨rfl, rfl⟩ | ⟨rfl, rfl⟩ | ⟨rfl, rfl⟩ | ⟨rfl, rfl⟩
  all_goals
    go_enter Try.func100, Try.ntmps100
    go_wp2
    go_ret
    exact ⟨rfl, rfl⟩
theorem sMost0_any (z : Int) (w : World) : Calls Try.prog 129 #[.int .i64 0, .int .i64 z] w fun e w' => e = .returned (.int .i64 (if 0 > z then 0 else z)) ∧ w' = w := by
  by_cases h : z < 0
  · have HR : Hid ((if (0 : Int) > z then 0 else z) = 0) := Lib.hid (if_pos h)
    rw [HR.out]
    go_enter Try.func129, Try.ntmps129
    go_wp2
    go_ret
    exact ⟨rfl, rfl⟩
  · have HR : Hid ((if (0 : Int) > z then 0 else z) = z) := Lib.hid (if_neg h)
    rw [HR.out]
    go_enter Try.func129, Try.ntmps129
    go_wp2
    go_ret
    exact ⟨rfl, rfl⟩
theorem sMany_any (n L : Nat) (hn : n ≤ 10) (hL62 : L ≤ 62) (w : World) :
    Calls Try.prog 99 #[.int .i64 (n : Int), .int .i64 (L : Int)] w fun e w' => e = .returned (.int .i64 ((manyN n L : Nat) : Int)) ∧ w' = w := by
  go_enter Try.func99, Try.ntmps99
  go_wp2
  go_loopw [5, 6] (fun cv v wr => ∃ i : Nat, v = .int .i64 (i : Int) ∧ cv = .int .i64 ((manyN i L : Nat) : Int) ∧ i ≤ n ∧ wr = w) (fun _ v _ => n - (intOf v).toNat)
  case atStart => exact ⟨0, rfl, rfl, Nat.zero_le _, rfl⟩
  case round =>
    obtain ⟨i, rfl, rfl, hi, hwr⟩ := hrel
    subst hwr
    by_cases hlt : i < n
    · obtain ⟨e1, e2⟩ := wrap_many (many_mul2 (k := i) (L := L) (by omega) hL62) (manyN_62 (by omega) hL62)
      have F := Lib.hid fun w => sMost0_any ((L : Int) - (i : Int)) w
      obtain ⟨z, hz⟩ : ∃ z : Int, (if 0 > ((L : Int) - (i : Int)) then 0 else (L : Int) - (i : Int)) = z := ⟨_, rfl⟩
      rw [hz] at e1 e2 F
      obtain ⟨c1, hc1⟩ : ∃ c1, manyN (i + 1) L = c1 := ⟨_, rfl⟩
      have HC := Lib.hid hc1
      rw [hc1] at e1 e2
      clear hc1 hz
      generalize manyN i L = c0 at e1 e2
      go_wp2_with fail
      refine (F.out _).mono ?_
      rintro e w1 ⟨rfl, rfl⟩
      go_wp2
      go_roundw
      case rel => exact ⟨i + 1, by go_num, by rw [HC.out], by omega, by trivial⟩
      case measure => simp [intOf]; omega
    · obtain rfl : i = n := by omega
      go_wp2
      go_ret
      exact ⟨rfl, rfl⟩
theorem sSize_any (l m : Int) (w : World) : Calls Try.prog 98 #[.int .i64 l, .int .i64 m] w fun e w' => e = .returned (.bool (sizeB l m)) ∧ w' = w := by
  have I1 := Lib.hid fun w => in_any l 1 10 w
  have I2 := Lib.hid fun w => in_any m 1 5 w
  have HR : Hid (sizeB l m = ((decide (1 ≤ l) && decide (l ≤ 10)) && (decide (1 ≤ m) && decide (m ≤ 5)))) := Lib.hid rfl
  generalize (decide (1 ≤ l) && decide (l ≤ 10)) = q1 at I1 HR
  generalize (decide (1 ≤ m) && decide (m ≤ 5)) = q2 at I2 HR
  rw [HR.out]
  cases q1
  · go_enter Try.func98, Try.ntmps98
    go_wp2_with fail
    refine (I1.out _).mono ?_
    rintro e w2 ⟨rfl, rfl⟩
    go_wp2
    go_ret
    exact ⟨rfl, rfl⟩
  · go_enter Try.func98, Try.ntmps98
    go_wp2_with fail
    refine (I1.out _).mono ?_
    rintro e w2 ⟨rfl, rfl⟩
    go_wp2_with fail
    refine (I2.out _).mono ?_
    rintro e w3 ⟨rfl, rfl⟩
    go_wp2
    go_ret
    exact ⟨rfl, rfl⟩
theorem sCountTables_any (l m : Int) (w : World) :
    Calls Try.prog 48 #[.int .i64 l, .int .i64 m] w fun e w' => e = .returned (.tuple #[.int .i64 (ctR l m), .bool (sizeB l m)]) ∧ Below w.heap.size w w' := by
  have F := Lib.hid fun w => sSize_any l m w
  cases hs : sizeB l m with
  | true =>
    obtain ⟨n, k, L, rfl, n1, n2, rfl, hO⟩ := sizeB_at hs
    have HR : Hid (ctR n k = ((manyN n L : Nat) : Int)) := Lib.hid (by unfold ctR; rw [if_pos hs, leftN_of hO, Int.toNat_natCast])
    have G := Lib.hid fun w => sLeft_any k L hO w
    have HM := Lib.hid fun w => sMany_any n L n2 (by have := hO.le; omega) w
    rw [hs] at F
    clear hs hO
    go_enter Try.func48, Try.ntmps48
    go_wp2_with fail
    refine (F.out _).mono ?_
    rintro e w1 ⟨rfl, rfl⟩
    go_wp2_with fail
    refine (G.out _).mono ?_
    rintro e w1 ⟨rfl, rfl⟩
    go_wp2_with fail
    refine (HM.out _).mono ?_
    rintro e w1 ⟨rfl, rfl⟩
    go_wp2
    go_ret2
    exact ⟨by rw [HR.out]; rfl, Below.refl _ _⟩
  | false =>
    have HR : Hid (ctR l m = 0) := Lib.hid (by unfold ctR; rw [if_neg (by rw [hs]; decide)])
    rw [hs] at F
    clear hs
    go_enter Try.func48, Try.ntmps48
    go_wp2_with fail
    refine (F.out _).mono ?_
    rintro e w1 ⟨rfl, rfl⟩
    go_wp2
    go_ret2
    exact ⟨by rw [HR.out]; rfl, Below.refl _ _⟩
theorem countTables_both (l m : Int) (hl : (Lit.int .i64 l).wf = true) (hm : (Lit.int .i64 m).wf = true) : ∃ (R0 : Int) (R1 : Bool),
    Hid (∀ W, Calls Try.prog 48 #[.int .i64 l, .int .i64 m] W fun e W' => e = .returned (.tuple #[.int .i64 R0, .bool R1]) ∧ Below W.heap.size W W') ∧
    Hid (∀ W, Calls Try.prog 49 #[.int .i64 l, .int .i64 m] W fun e W' => e = .returned (.tuple #[.int .i64 R0, .bool R1]) ∧ Below W.heap.size W W') :=
  ⟨_, _, fun W => sCountTables_any l m W, fun W => countTables_any l m W⟩
end Go.Proofs.Ytdphjnbelggcfaa
