/-
  Fractions of the program: greatestDivisor, fractionOf, onOneDenominator, restOf, compareFractions. Used by the claims on chapter 7.
-/
import Derived.Test.YtomhjfjfmjacfaaFracL
import Derived.Test.YtomhjfjfmjacfaaTwoW
import Derived.Tactics2
import Derived.OwnWalk
import Derived.Deep.RegionHeldLaw
namespace Go.Proofs.Ytomhjfjfmjacfaa
open Go.RowKit
set_option linter.unusedVariables false

theorem res_twoF {fn : Func} {p : Tmp} (h : fn.results = #[.cell p 28]) (tmps : Array Value) {w : World} {g : Nat} {x y : Int} (hp : tmps.getD p undef = .pointer (some ⟨g, 0, none⟩)) (hb : Two w g x y) : (results fn tmps).run Try.prog w = .ok (.agg #[.int .i64 x, .int .i64 y]) w := by
  have hp' : tmps[p]?.getD undef = .pointer (some ⟨g, 0, none⟩) := by simpa using hp
  simp [results, h, hp', asAddr, load_two hb]

set_option maxHeartbeats 1000000 in
theorem gcdF_any (a b : Nat) (w : World) (ha : a ≤ 10000000000000) (hb : b ≤ 10000000000000) :
    Calls Try.prog 102 #[.int .i64 a, .int .i64 b] w fun e w' => e = .returned (.int .i64 ((Nat.gcd a b : Nat) : Int)) ∧ Below w.heap.size w w' := by
  go_enter Try.func102, Try.ntmps102
  go_wp2
  go_loopw [0, 1] (fun x y wr => ∃ (m n : Nat), x = .int .i64 m ∧ y = .int .i64 n ∧ m ≤ 10000000000000 ∧ n ≤ 10000000000000 ∧ Hid (Nat.gcd m n = Nat.gcd a b) ∧ Hid (Below w.heap.size w wr)) (fun _ y _ => (intOf y).toNat)
  case atStart => exact ⟨a, b, rfl, rfl, ha, hb, Lib.hid rfl, Lib.hid (Below.refl _ _)⟩
  case round =>
    obtain ⟨m, n, rfl, rfl, hm, hn, HG, HB⟩ := hrel
    rcases Nat.eq_zero_or_pos n with h0 | h0
    · have HE : Hid (Nat.gcd a b = m) := Lib.hid (by rw [← HG.out, h0, Nat.gcd_zero_right])
      have t1 : ((n : Int) == 0) = true := by simp; omega
      have t2 : ((n : Int) != 0) = false := by simp; omega
      clear h0
      go_wp2
      go_ret
      exact ⟨by rw [HE.out]; rfl, HB.out⟩
    · have t1 : ((n : Int) == 0) = false := by simp; omega
      have t2 : ((n : Int) != 0) = true := by simp; omega
      have t3 : ¬ (n : Int) = 0 := by omega
      have t4 : Int.tmod (m : Int) (n : Int) = ((m % n : Nat) : Int) := by rw [Int.tmod_eq_emod_of_nonneg (by omega)]; rfl
      have hlt : m % n < n := Nat.mod_lt _ h0
      have HN : Hid (Nat.gcd n (m % n) = Nat.gcd a b) := Lib.hid (by rw [← HG.out, Nat.gcd_comm m n, Nat.gcd_rec n m, Nat.gcd_comm])
      generalize m % n = r at t4 hlt HN
      have t5 : wrap64 (r : Int) = (r : Int) := IntWalk.wrap64_in _ (by omega)
      have t6 : IntKind.i64.wrap (r : Int) = (r : Int) := by rw [IntKind.wrap_i64]; omega
      go_wp2
      go_region
      go_wp2
      go_roundw
      case rel => exact ⟨n, r, rfl, rfl, hn, by omega, HN, Lib.hid (HB.out.trans ⟨rfl, rfl, rfl, Nat.le_refl _, fun _ _ => rfl⟩)⟩
      case measure => simp [intOf]; omega

theorem tdiv_nat (a b : Nat) : Int.tdiv (a : Int) (b : Int) = ((a / b : Nat) : Int) := by rw [Int.tdiv_eq_ediv_of_nonneg (by omega)]; rfl
theorem wrap_nat (n : Nat) (h : n ≤ 1000000000000000000) : wrap64 (n : Int) = (n : Int) ∧ IntKind.i64.wrap (n : Int) = (n : Int) :=
  ⟨IntWalk.wrap64_in _ (by omega), IntWalk.i64_in _ (by omega)⟩

set_option maxHeartbeats 2000000 in
theorem frac_any (a b : Nat) (w : World) (ha : a ≤ 10000000000000) (hb0 : 0 < b) (hb : b ≤ 10000000000000) :
    Calls Try.prog 77 #[.int .i64 a, .int .i64 b] w fun e w' => e = .returned (.agg #[.int .i64 (((cutN a b).1 : Nat) : Int), .int .i64 (((cutN a b).2 : Nat) : Int)]) ∧ Below w.heap.size w w' := by
  have G := Lib.hid fun W => gcdF_any a b W ha hb
  have hg := gcd_pos (a := a) hb0
  have x1 := cut_le1 a b
  have x2 := cut_le2 a b
  have d1 : Int.tdiv (a : Int) ((Nat.gcd a b : Nat) : Int) = (((cutN a b).1 : Nat) : Int) := tdiv_nat _ _
  have d2 : Int.tdiv (b : Int) ((Nat.gcd a b : Nat) : Int) = (((cutN a b).2 : Nat) : Int) := tdiv_nat _ _
  generalize (cutN a b).1 = x at *
  generalize (cutN a b).2 = y at *
  generalize Nat.gcd a b = g at *
  have t1 : ((g : Int) == 0) = false := by simp; omega
  have t3 : ¬ (g : Int) = 0 := by omega
  obtain ⟨m1, m2⟩ := wrap_nat x (by omega)
  obtain ⟨m3, m4⟩ := wrap_nat y (by omega)
  clear ha hb hb0 hg x1 x2
  go_enter Try.func77, Try.ntmps77
  go_wp2_with fail
  refine (G.out _).mono ?_
  rintro e w1 ⟨rfl, hb1⟩
  have hT : Two w1 w.heap.size 0 0 := (two_new w 0 0).below hb1
  have f0 := hT.frozen 0
  have f1 := hT.frozen 1
  have c0 := hT.cell0
  have c1 := hT.cell1
  have HT := Lib.hid hT
  have HB := Lib.hid ((below_alloc w (.cells #[.int .i64 0, .int .i64 0] 28)).trans (hb1.mono (by simp)))
  clear hb1 hT
  go_wp2
  go_region
  all_goals (
    go_wp2
    refine bodyPost_ret (res_twoF rfl _ rfl ((HT.out.set0 _).set1 _)) rfl ?_
    exact ⟨rfl, ((HB.out.setCell (p := ⟨w.heap.size, 0, none⟩) (by simp) _).setCell (p := ⟨w.heap.size, 1, none⟩) (by simp) _).drew⟩)

set_option maxHeartbeats 2000000 in
theorem oneDen_any (x1 x2 y1 y2 n1 n2 d : Nat) (w : World) (hx0 : 0 < x2) (hy0 : 0 < y2) (hx : x2 ≤ 10000000000000) (hy : y2 ≤ 10000000000000)
    (e1 : n1 = x1 * (y2 / Nat.gcd x2 y2)) (e2 : n2 = y1 * (x2 / Nat.gcd x2 y2)) (e3 : d = x2 / Nat.gcd x2 y2 * y2) (b1 : n1 ≤ 1000000000000000) (b2 : n2 ≤ 1000000000000000) (b3 : d ≤ 1000000000000000) :
    Calls Try.prog 76 #[.agg #[.int .i64 x1, .int .i64 x2], .agg #[.int .i64 y1, .int .i64 y2]] w fun e w' => e = .returned (.tuple #[.int .i64 n1, .int .i64 n2, .int .i64 d]) ∧ Below w.heap.size w w' := by
  have G := Lib.hid fun W => gcdF_any x2 y2 W hx hy
  have hg := gcd_pos (a := x2) hy0
  have u1 : y2 / Nat.gcd x2 y2 ≤ y2 := Nat.div_le_self _ _
  have u2 : x2 / Nat.gcd x2 y2 ≤ x2 := Nat.div_le_self _ _
  have d1 := tdiv_nat y2 (Nat.gcd x2 y2)
  have d2 := tdiv_nat x2 (Nat.gcd x2 y2)
  generalize y2 / Nat.gcd x2 y2 = v at *
  generalize x2 / Nat.gcd x2 y2 = u at *
  generalize Nat.gcd x2 y2 = g at *
  have t1 : ((g : Int) == 0) = false := by simp; omega
  have t3 : ¬ (g : Int) = 0 := by omega
  obtain ⟨m1, m2⟩ := wrap_nat v (by omega)
  obtain ⟨m3, m4⟩ := wrap_nat u (by omega)
  obtain ⟨m5, m6⟩ := wrap_nat n1 (by omega)
  obtain ⟨m7, m8⟩ := wrap_nat n2 (by omega)
  obtain ⟨m9, ma⟩ := wrap_nat d (by omega)
  have q1 : (x1 : Int) * (v : Int) = (n1 : Int) := by rw [e1]; exact (Int.natCast_mul _ _).symm
  have q2 : (y1 : Int) * (u : Int) = (n2 : Int) := by rw [e2]; exact (Int.natCast_mul _ _).symm
  have q3 : (u : Int) * (y2 : Int) = (d : Int) := by rw [e3]; exact (Int.natCast_mul _ _).symm
  clear hx0 hy0 hx hy hg u1 u2 e1 e2 e3 b1 b2 b3
  have hT1 := (two_new w x1 x2).below (below_alloc _ (.cells #[.int .i64 y1, .int .i64 y2] 28))
  have hT2 := two_new (w.alloc (.cells #[.int .i64 x1, .int .i64 x2] 28)) y1 y2
  have e0 : (w.alloc (.cells #[.int .i64 x1, .int .i64 x2] 28)).heap.size = w.heap.size + 1 := by simp
  rw [e0] at hT2
  have c1 := hT1.cell1
  have c2 := hT2.cell1
  have hb0 := (below_alloc w (.cells #[.int .i64 x1, .int .i64 x2] 28)).alloc (by simp) (.cells #[.int .i64 y1, .int .i64 y2] 28)
  have HB0 := Lib.hid hb0
  have H1 := Lib.hid hT1
  have H2 := Lib.hid hT2
  clear hb0 hT1 hT2 e0
  go_enter Try.func76, Try.ntmps76
  go_wp2_with fail
  refine (G.out _).mono ?_
  rintro e w1 ⟨rfl, hb1⟩
  have hT1 := H1.out.below hb1
  have hT2 := H2.out.below hb1
  have k1 := hT1.cell0
  have k2 := hT1.cell1
  have k3 := hT2.cell0
  have k4 := hT2.cell1
  have HB := Lib.hid (HB0.out.trans (hb1.mono (by simp; omega)))
  clear hb1 hT1 hT2 c1 c2
  go_wp2
  go_quiet (fail)
  go_wp2
  go_ret3
  exact ⟨rfl, HB.out.trans ⟨rfl, rfl, rfl, Nat.le_refl _, fun _ _ => rfl⟩⟩

set_option maxHeartbeats 2000000 in
theorem rest_any (x y : Nat) (w : World) (hxy : x ≤ y) (hy : y ≤ 10000000000000) :
    Calls Try.prog 68 #[.agg #[.int .i64 x, .int .i64 y]] w fun e w' => e = .returned (.agg #[.int .i64 ((y - x : Nat) : Int), .int .i64 y]) ∧ Below w.heap.size w w' := by
  have hv : ((y - x : Nat) : Int) = (y : Int) - (x : Int) := by omega
  rw [hv]
  have hT1 := (two_new w x y).below (below_alloc _ (.cells #[.int .i64 0, .int .i64 0] 28))
  have e0 : (w.alloc (.cells #[.int .i64 x, .int .i64 y] 28)).heap.size = w.heap.size + 1 := by simp
  have c1 := hT1.cell0
  have c2 := hT1.cell1
  have HR : Hid (Two ((w.alloc (.cells #[.int .i64 x, .int .i64 y] 28)).alloc (.cells #[.int .i64 ((y : Int) - (x : Int)), .int .i64 y] 28)) (w.heap.size + 1) ((y : Int) - (x : Int)) y) := Lib.hid (by rw [← e0]; exact two_new _ _ _)
  have HB : Hid (Below w.heap.size w ((w.alloc (.cells #[.int .i64 x, .int .i64 y] 28)).alloc (.cells #[.int .i64 ((y : Int) - (x : Int)), .int .i64 y] 28))) := Lib.hid ((below_alloc w _).alloc (below_alloc w _).size _)
  have y1 : (x : Int) ≤ (y : Int) := by omega
  have y2 : (y : Int) ≤ 10000000000000 := by omega
  clear hT1 e0 hv hxy hy
  go_enter Try.func68, Try.ntmps68
  go_wp2
  refine bodyPost_ret (res_twoF rfl _ rfl HR.out) rfl ?_
  exact ⟨rfl, HB.out⟩

set_option maxHeartbeats 2000000 in
theorem compareF_any (x1 x2 y1 y2 n1 n2 d : Nat) (w : World) (hx0 : 0 < x2) (hy0 : 0 < y2) (hx : x2 ≤ 10000000000000) (hy : y2 ≤ 10000000000000)
    (e1 : n1 = x1 * (y2 / Nat.gcd x2 y2)) (e2 : n2 = y1 * (x2 / Nat.gcd x2 y2)) (e3 : d = x2 / Nat.gcd x2 y2 * y2) (b1 : n1 ≤ 1000000000000000) (b2 : n2 ≤ 1000000000000000) (b3 : d ≤ 1000000000000000) :
    Calls Try.prog 80 #[.agg #[.int .i64 x1, .int .i64 x2], .agg #[.int .i64 y1, .int .i64 y2]] w fun e w' => e = .returned (.int .i64 ((n1 : Int) - (n2 : Int))) ∧ Below w.heap.size w w' := by
  have G := Lib.hid fun W => oneDen_any x1 x2 y1 y2 n1 n2 d W hx0 hy0 hx hy e1 e2 e3 b1 b2 b3
  have q1 : (n1 : Int) ≤ 1000000000000000 := by omega
  have q2 : (n2 : Int) ≤ 1000000000000000 := by omega
  have q3 : (0 : Int) ≤ (n1 : Int) := by omega
  have q4 : (0 : Int) ≤ (n2 : Int) := by omega
  clear hx0 hy0 hx hy e1 e2 e3 b1 b2 b3
  have hT1 := (two_new w x1 x2).below (below_alloc _ (.cells #[.int .i64 y1, .int .i64 y2] 28))
  have hT2 := two_new (w.alloc (.cells #[.int .i64 x1, .int .i64 x2] 28)) y1 y2
  have e0 : (w.alloc (.cells #[.int .i64 x1, .int .i64 x2] 28)).heap.size = w.heap.size + 1 := by simp
  rw [e0] at hT2
  have c1 := load_two hT1
  have c2 := load_two hT2
  have HB0 := Lib.hid ((below_alloc w (.cells #[.int .i64 x1, .int .i64 x2] 28)).alloc (by simp) (.cells #[.int .i64 y1, .int .i64 y2] 28))
  clear hT1 hT2 e0
  go_enter Try.func80, Try.ntmps80
  go_wp2_with fail
  refine (G.out _).mono ?_
  rintro e w1 ⟨rfl, hb1⟩
  have HB := Lib.hid (HB0.out.trans (hb1.mono (by simp; omega)))
  clear hb1 c1 c2
  go_wp2
  go_ret
  exact ⟨rfl, HB.out⟩
end Go.Proofs.Ytomhjfjfmjacfaa
