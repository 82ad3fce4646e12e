/-
  The chance that marks come of others, the program's: canCome, chanceOfMark, chanceComes. Used by the claims on chapter 7.
-/
import Derived.Test.YtomhjfjfmjacfaaNoiW
import Derived.Test.YtomhjfjfmjacfaaOppM
import Derived.Laws.StructEq
namespace Go.Proofs.Ytomhjfjfmjacfaa
open Go.RowKit
set_option linter.unusedVariables false

/-- Two noises compared. -/
theorem eqNoi (a b c d : Int) (w : World) : (Op.equalIn 10000 25 (.agg #[.int .i64 a, .int .i64 b]) (.agg #[.int .i64 c, .int .i64 d])).run Try.prog w = .ok (a == c && b == d) w := by
  have u3 := Try.underlying3
  have a3 := Try.isAgg3
  have z3 := Try.sizeOf3
  rw [show (10000 : Nat) = 9999 + 1 from rfl, run_equalIn_struct _ _ _ _ _ (by kernel_rfl) (by kernel_rfl)]
  simp only [Program.fieldsOf, Try.underlying25, Op.eqFields]
  go_simp
  by_cases h1 : a = c <;> by_cases h2 : b = d <;> simp [h1, h2]
theorem eqNoi_b {a b c d : Int} {w : World} {r : Bool} (h : (a == c && b == d) = r) : (Op.equalIn 10000 25 (.agg #[.int .i64 a, .int .i64 b]) (.agg #[.int .i64 c, .int .i64 d])).run Try.prog w = .ok r w := by rw [eqNoi, h]

theorem toList_beq (x y : ByteArray) : (x.toList == y.toList) = (bl x == bl y) := by
  rw [ByteArray.toList_eq, ByteArray.toList_eq]; rfl
theorem marks_mk {x : Bs} (h : marksL x = true) : ∀ c ∈ x, isMk c = true := by
  simp only [marksL, Bool.and_eq_true, decide_eq_true_eq, List.all_eq_true] at h
  exact h.2
theorem marks_len {x : Bs} (h : marksL x = true) : 1 ≤ x.length ∧ x.length ≤ 5 := by
  simp only [marksL, Bool.and_eq_true, decide_eq_true_eq] at h
  exact h.1

set_option maxHeartbeats 2000000 in
set_option maxRecDepth 20000 in
theorem canCome_any (p q : Nat) (N D : Int) (x y : ByteArray) (w : World) (hN : N = (p : Int)) (hD : D = ((p + q : Nat) : Int)) (h1 : 1 ≤ p + q) (hx : marksL (bl x) = true) (hy : marksL (bl y) = true) :
    Calls Try.prog 75 #[.agg #[.int .i64 N, .int .i64 D], .string x, .string y] w fun e w' => e = .returned (.bool (canN p q (bl x) (bl y))) ∧ Below w.heap.size w w' := by
  rcases Nat.eq_zero_or_pos p with hp | hp
  · have HR : Hid (canN p q (bl x) (bl y) = (y.toList == x.toList)) := Lib.hid (by rw [hp, can_none (by omega), toList_beq])
    obtain rfl : N = 0 := by omega
    rw [HR.out]
    clear hN hD h1 hp hx hy
    have hT := pr2_new 25 w 0 D
    have c1 := hT.cell1
    have l1 := load_noi hT
    have HB := Lib.hid (below_alloc w (.cells #[.int .i64 0, .int .i64 D] 25))
    have t1 := eqNoi_b (a := 0) (b := D) (c := 0) (d := D) (w := w.alloc (.cells #[.int .i64 0, .int .i64 D] 25)) (r := true) (by simp)
    clear hT
    go_enter Try.func75, Try.ntmps75
    go_wp2
    go_ret
    exact ⟨rfl, HB.out⟩
  · have n0 : ¬ N = 0 := by omega
    have n1 : (N == 0) = false := by simp; omega
    rcases Nat.eq_zero_or_pos q with hq | hq
    · have HR : Hid (canN p q (bl x) (bl y) = (y.toList == (ba (oppL (bl x))).toList)) := Lib.hid (by rw [hq, can_each (by omega) (marks_mk hx) (marks_mk hy), toList_beq, bl_ba])
      have O := Lib.hid fun W => oppositeMarks_any x W hx
      generalize ba (oppL (bl x)) = z at O HR
      obtain rfl : D = N := by omega
      rw [HR.out]
      clear hN hD h1 hp hx hy hq
      have hT := pr2_new 25 w D D
      have c1 := hT.cell1
      have l1 := load_noi hT
      have HB := Lib.hid (below_alloc w (.cells #[.int .i64 D, .int .i64 D] 25))
      have t1 := eqNoi_b (a := D) (b := D) (c := 0) (d := D) (w := w.alloc (.cells #[.int .i64 D, .int .i64 D] 25)) (r := false) (by simp [n0])
      have t2 := eqNoi_b (a := D) (b := D) (c := D) (d := D) (w := w.alloc (.cells #[.int .i64 D, .int .i64 D] 25)) (r := true) (by simp)
      clear hT
      go_enter Try.func75, Try.ntmps75
      go_wp2_with fail
      refine (O.out _).mono ?_
      rintro e w1 ⟨rfl, hb⟩
      have HB1 := Lib.hid (HB.out.trans (hb.mono (by simp)))
      clear hb c1 l1 t1 t2
      go_wp2
      go_ret
      exact ⟨rfl, HB1.out⟩
    · have HR : Hid (canN p q (bl x) (bl y) = ((y.size : Int) == (x.size : Int))) := Lib.hid (by
        rw [can_some (by omega) (by omega), bl_len, bl_len, Bool.eq_iff_iff, decide_eq_true_eq, beq_iff_eq]
        omega)
      have n2 : ¬ N = D := by omega
      have n3 : (N == D) = false := by simp; omega
      rw [HR.out]
      clear hN hD h1 hp hx hy hq
      have hT := pr2_new 25 w N D
      have c1 := hT.cell1
      have l1 := load_noi hT
      have HB := Lib.hid (below_alloc w (.cells #[.int .i64 N, .int .i64 D] 25))
      have t1 := eqNoi_b (a := N) (b := D) (c := 0) (d := D) (w := w.alloc (.cells #[.int .i64 N, .int .i64 D] 25)) (r := false) (by simp [n0])
      have t2 := eqNoi_b (a := N) (b := D) (c := D) (d := D) (w := w.alloc (.cells #[.int .i64 N, .int .i64 D] 25)) (r := false) (by simp [n2])
      clear hT
      go_enter Try.func75, Try.ntmps75
      go_wp2
      go_ret
      exact ⟨rfl, HB.out⟩

/-! ### The chance of one mark -/
set_option maxHeartbeats 2000000 in
set_option maxRecDepth 20000 in
theorem chanceOfMark_any (p q d : Nat) (w : World) (hd : d = p + q) (h1 : 1 ≤ d) (h2 : d ≤ 100) :
    Calls Try.prog 96 #[.agg #[.int .i64 p, .int .i64 d]] w fun e w' => ∃ g, e = .returned (.func (.func 109) #[] #[.pointer (some ⟨g, 0, none⟩)]) ∧ w.heap.size ≤ g ∧ Two w' g (((cutN p d).1 : Nat) : Int) (((cutN p d).2 : Nat) : Int) ∧ Below w.heap.size w w' := by
  have hT := pr2_new 25 w p d
  have c0 := hT.cell0
  have c1 := hT.cell1
  have HB := Lib.hid (below_alloc w (.cells #[.int .i64 (p : Int), .int .i64 (d : Int)] 25))
  have F := Lib.hid fun W => frac_any p d W (by omega) (by omega) (by omega)
  generalize (cutN p d).1 = x at F ⊢
  generalize (cutN p d).2 = y at F ⊢
  clear hT hd h1 h2
  go_enter Try.func96, Try.ntmps96
  go_wp2_with fail
  refine (F.out _).mono ?_
  rintro e w1 ⟨rfl, hb⟩
  have HB1 := Lib.hid (HB.out.trans (hb.mono (by simp)))
  have HT := Lib.hid (two_new w1 x y)
  clear hb c0 c1
  go_wp2
  go_ret
  exact ⟨_, rfl, HB1.out.size, HT.out, HB1.out.alloc HB1.out.size _⟩

set_option maxHeartbeats 2000000 in
set_option maxRecDepth 20000 in
theorem chanceMark_any (x y : UInt8) (c1 c2 g : Nat) (w : World) (hT : Two w g c1 c2) (h : c1 ≤ c2) (h2 : c2 ≤ 100) :
    Calls Try.prog 109 #[.int .u8 (x.toNat : Int), .int .u8 (y.toNat : Int), .pointer (some ⟨g, 0, none⟩)] w fun e w' => e = .returned (.agg #[.int .i64 ((if x = y then c2 - c1 else c1 : Nat) : Int), .int .i64 c2]) ∧ Below w.heap.size w w' := by
  have l1 := (hT.below (below_alloc w (.cells #[.int .i64 0, .int .i64 0] 28))).cell0
  have l2 := (hT.below (below_alloc w (.cells #[.int .i64 0, .int .i64 0] 28))).cell1
  have HB := Lib.hid (below_alloc w (.cells #[.int .i64 0, .int .i64 0] 28))
  have HR := Lib.hid fun W => rest_any c1 c2 W h (by omega)
  have HN := Lib.hid (two_new w 0 0)
  clear hT h h2
  by_cases e : x = y
  · rw [if_pos e]
    have t1 : ((x.toNat : Int) == (y.toNat : Int)) = true := by rw [e]; simp
    clear e
    generalize c2 - c1 = r at HR ⊢
    go_enter Try.func109, Try.ntmps109
    go_wp2_with fail
    refine (HR.out _).mono ?_
    rintro e w1 ⟨rfl, hb⟩
    have hT := HN.out.below hb
    have k0 := hT.cell0
    have k1 := hT.cell1
    have f0 := hT.frozen 0
    have f1 := hT.frozen 1
    have HT := Lib.hid hT
    have HB1 := Lib.hid (HB.out.trans (hb.mono (by simp)))
    clear hb hT l1 l2
    go_wp2
    refine bodyPost_ret (res_twoF rfl _ rfl ((HT.out.set0 _).set1 _)) rfl ?_
    exact ⟨rfl, (HB1.out.setCell (p := ⟨w.heap.size, 0, none⟩) (by simp) _).setCell (p := ⟨w.heap.size, 1, none⟩) (by simp) _⟩
  · rw [if_neg e]
    have t1 : ((x.toNat : Int) == (y.toNat : Int)) = false := by
      have : ¬ x.toNat = y.toNat := fun h => e (UInt8.toNat_inj.1 h)
      simp; omega
    clear e
    have k0 := HN.out.cell0
    have k1 := HN.out.cell1
    have f0 := HN.out.frozen 0
    have f1 := HN.out.frozen 1
    go_enter Try.func109, Try.ntmps109
    go_wp2
    have hT := two_new w c1 c2
    refine bodyPost_ret (res_twoF rfl _ rfl hT) rfl ?_
    exact ⟨rfl, below_alloc _ _⟩
end Go.Proofs.Ytomhjfjfmjacfaa
