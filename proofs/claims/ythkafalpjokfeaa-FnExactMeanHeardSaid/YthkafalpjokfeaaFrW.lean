/-
  Fractions of the program: greatestDivisor, fractionOf, onOneDenominator, restOf, compareFractions. Used by the claims on chapter 7.
-/
import Derived.Test.YthkafalpjokfeaaFracL
import Derived.Test.YthkafalpjokfeaaTwoW
import Derived.Tactics2
import Derived.OwnWalk
import Derived.Deep.RegionHeldLaw
namespace Go.Proofs.Ythkafalpjokfeaa
open Go.RowKit
set_option linter.unusedVariables false

theorem res_twoF {fn : Func} {p : Tmp} (h : fn.results = #[.cell p 43]) (tmps : Array Value) {w : World} {g : Nat} {x y : Int} (hp : tmps.getD p undef = .pointer (some ⟨g, 0, none⟩)) (hb : Two w g x y) : (results fn tmps).run Try.prog w = .ok (.agg #[.int .i64 x, .int .i64 y]) w := by
  have hp' : tmps[p]?.getD undef = .pointer (some ⟨g, 0, none⟩) := by simpa using hp
  simp [results, h, hp', asAddr, load_two hb]

set_option maxHeartbeats 1000000 in
theorem gcdF_any (a b : Nat) (w : World) (ha : a ≤ 10000000000000) (hb : b ≤ 10000000000000) :
    Calls Try.prog 130 #[.int .i64 a, .int .i64 b] w fun e w' => e = .returned (.int .i64 ((Nat.gcd a b : Nat) : Int)) ∧ Below w.heap.size w w' := by
  go_enter Try.func130, Try.ntmps130
  go_wp2
  go_loopw [0, 1] (fun x y wr => ∃ (m n : Nat), x = .int .i64 m ∧ y = .int .i64 n ∧ m ≤ 10000000000000 ∧ n ≤ 10000000000000 ∧ Hid (Nat.gcd m n = Nat.gcd a b) ∧ Hid (Below w.heap.size w wr)) (fun _ y _ => (intOf y).toNat)
  case atStart => exact ⟨a, b, rfl, rfl, ha, hb, Lib.hid rfl, Lib.hid (Below.refl _ _)⟩
  case round =>
    obtain ⟨m, n, rfl, rfl, hm, hn, HG, HB⟩ := hrel
    rcases Nat.eq_zero_or_pos n with h0 | h0
    · have HE : Hid (Nat.gcd a b = m) := Lib.hid (by rw [← HG.out, h0, Nat.gcd_zero_right])
      have t1 : ((n : Int) == 0) = true := by simp; omega
      have t2 : ((n : Int) != 0) = false := by simp; omega
      clear h0
      go_wp2
      go_ret
      exact ⟨by rw [HE.out]; rfl, HB.out⟩
    · have t1 : ((n : Int) == 0) = false := by simp; omega
      have t2 : ((n : Int) != 0) = true := by simp; omega
      have t3 : ¬ (n : Int) = 0 := by omega
      have t4 : Int.tmod (m : Int) (n : Int) = ((m % n : Nat) : Int) := by rw [Int.tmod_eq_emod_of_nonneg (by omega)]; rfl
      have hlt : m % n < n := Nat.mod_lt _ h0
      have HN : Hid (Nat.gcd n (m % n) = Nat.gcd a b) := Lib.hid (by rw [← HG.out, Nat.gcd_comm m n, Nat.gcd_rec n m, Nat.gcd_comm])
      generalize m % n = r at t4 hlt HN
      have t5 : wrap64 (r : Int) = (r : Int) := IntWalk.wrap64_in _ (by omega)
      have t6 : IntKind.i64.wrap (r : Int) = (r : Int) := by rw [IntKind.wrap_i64]; omega
      go_wp2
      go_region
      go_wp2
      go_roundw
      case rel => exact ⟨n, r, rfl, rfl, hn, by omega, HN, Lib.hid (HB.out.trans ⟨rfl, rfl, rfl, Nat.le_refl _, fun _ _ => rfl⟩)⟩
      case measure => simp [intOf]; omega

theorem tdiv_nat (a b : Nat) : Int.tdiv (a : Int) (b : Int) = ((a / b : Nat) : Int) := by rw [Int.tdiv_eq_ediv_of_nonneg (by omega)]; rfl
theorem wrap_nat (n : Nat) (h : n ≤ 1000000000000000000) : wrap64 (n : Int) = (n : Int) ∧ IntKind.i64.wrap (n : Int) = (n : Int) :=
  ⟨IntWalk.wrap64_in _ (by omega), IntWalk.i64_in _ (by omega)⟩

set_option maxHeartbeats 2000000 in
theorem frac_any (a b : Nat) (w : World) (ha : a ≤ 10000000000000) (hb0 : 0 < b) (hb : b ≤ 10000000000000) :
    Calls Try.prog 113 #[.int .i64 a, .int .i64 b] w fun e w' => e = .returned (.agg #[.int .i64 (((cutN a b).1 : Nat) : Int), .int .i64 (((cutN a b).2 : Nat) : Int)]) ∧ Below w.heap.size w w' := by
  have G := Lib.hid fun W => gcdF_any a b W ha hb
  have hg := gcd_pos (a := a) hb0
  have x1 := cut_le1 a b
  have x2 := cut_le2 a b
  have d1 : Int.tdiv (a : Int) ((Nat.gcd a b : Nat) : Int) = (((cutN a b).1 : Nat) : Int) := tdiv_nat _ _
  have d2 : Int.tdiv (b : Int) ((Nat.gcd a b : Nat) : Int) = (((cutN a b).2 : Nat) : Int) := tdiv_nat _ _
  generalize (cutN a b).1 = x at *
  generalize (cutN a b).2 = y at *
  generalize Nat.gcd a b = g at *
  have t1 : ((g : Int) == 0) = false := by simp; omega
  have t3 : ¬ (g : Int) = 0 := by omega
  obtain ⟨m1, m2⟩ := wrap_nat x (by omega)
  obtain ⟨m3, m4⟩ := wrap_nat y (by omega)
  clear ha hb hb0 hg x1 x2
  go_enter Try.func113, Try.ntmps113
  go_wp2_with fail
  refine (G.out _).mono ?_
  rintro e w1 ⟨rfl, hb1⟩
  have hT : Two w1 w.heap.size 0 0 := (two_new w 0 0).below hb1
  have f0 := hT.frozen 0
  have f1 := hT.frozen 1
  have c0 := hT.cell0
  have c1 := hT.cell1
  have HT := Lib.hid hT
  have HB := Lib.hid ((below_alloc w (.cells #[.int .i64 0, .int .i64 0] 43)).trans (hb1.mono (by simp)))
  clear hb1 hT
  go_wp2
  go_region
  all_goals (
    go_wp2
    refine bodyPost_ret (res_twoF rfl _ rfl ((HT.out.set0 _).set1 _)) rfl ?_
    exact ⟨rfl, ((HB.out.setCell (p := ⟨w.heap.size, 0, none⟩) (by simp) _).setCell (p := ⟨w.heap.size, 1, none⟩) (by simp) _).drew⟩)

end Go.Proofs.Ythkafalpjokfeaa
