/-
  Noises in memory: IsNoise of the program and of the model, l7Good, toNoise of the laws. Used by the claims on chapter 7.
-/
import Derived.Test.YtomhjfjfmjacfaaFrW
import Derived.Test.YtomhjfjfmjacfaaNoiL
import Derived.Test.YtomhjfjfmjacfaaSignW
namespace Go.Proofs.Ytomhjfjfmjacfaa
open Go.RowKit
set_option linter.unusedVariables false

/-- Two numbers in a block of type t. -/
def Pr2 (t : TypeId) (w : World) (g : Nat) (x y : Int) : Prop := w.heap[g]? = some (.cells #[.int .i64 x, .int .i64 y] t (0, 0))
theorem Pr2.cell0 {t : TypeId} {w : World} {g : Nat} {x y : Int} (h : Pr2 t w g x y) : w.cell? ⟨g, 0, none⟩ = some (.int .i64 x) := by
  unfold World.cell?; unfold Pr2 at h; simp [h]
theorem Pr2.cell1 {t : TypeId} {w : World} {g : Nat} {x y : Int} (h : Pr2 t w g x y) : w.cell? ⟨g, 1, none⟩ = some (.int .i64 y) := by
  unfold World.cell?; unfold Pr2 at h; simp [h]
theorem Pr2.frozen {t : TypeId} {w : World} {g : Nat} {x y : Int} (h : Pr2 t w g x y) (j : Nat) : w.frozen? ⟨g, j, none⟩ = false := by
  unfold World.frozen?; unfold Pr2 at h; simp [h]
theorem Pr2.below {t : TypeId} {w w' : World} {g : Nat} {x y : Int} (h : Pr2 t w g x y) (hb : Below w.heap.size w w') : Pr2 t w' g x y := (hb.block g (Array.getElem?_eq_some_iff.1 h).1).trans h
theorem Pr2.lt {t : TypeId} {w : World} {g : Nat} {x y : Int} (h : Pr2 t w g x y) : g < w.heap.size := (Array.getElem?_eq_some_iff.1 h).1
theorem pr2_new (t : TypeId) (w : World) (x y : Int) : Pr2 t (w.alloc (.cells #[.int .i64 x, .int .i64 y] t)) w.heap.size x y := heap_alloc_new _ _
theorem noi_size : (Try.prog.info? 25).map (·.size) = some 2 := by kernel_rfl
theorem noiL_size : (Try.prog.info? 23).map (·.size) = some 2 := by kernel_rfl
theorem load_noi {w : World} {g : Nat} {x y : Int} (h : Pr2 25 w g x y) : (loadVar 25 ⟨g, 0, none⟩).run Try.prog w = .ok (.agg #[.int .i64 x, .int .i64 y]) w :=
  run_loadVar_row w g 25 25 #[.int .i64 x, .int .i64 y] (0, 0) _ h Try.underlying25 rfl noi_size
theorem load_noiL {w : World} {g : Nat} {x y : Int} (h : Pr2 23 w g x y) : (loadVar 23 ⟨g, 0, none⟩).run Try.prog w = .ok (.agg #[.int .i64 x, .int .i64 y]) w :=
  run_loadVar_row w g 23 23 #[.int .i64 x, .int .i64 y] (0, 0) _ h Try.underlying23 rfl noiL_size
theorem res_noi {fn : Func} {p : Tmp} (h : fn.results = #[.cell p 25]) (tmps : Array Value) {w : World} {g : Nat} {x y : Int} (hp : tmps.getD p undef = .pointer (some ⟨g, 0, none⟩)) (hb : Pr2 25 w g x y) : (results fn tmps).run Try.prog w = .ok (.agg #[.int .i64 x, .int .i64 y]) w := by
  have hp' : tmps[p]?.getD undef = .pointer (some ⟨g, 0, none⟩) := by simpa using hp
  simp [results, h, hp', asAddr, load_noi hb]

set_option maxHeartbeats 2000000 in
theorem isNoise_any (N d : Int) (w : World) :
    Calls Try.prog 17 #[.agg #[.int .i64 N, .int .i64 d]] w fun e w' => e = .returned (.bool (goodN N d)) ∧ Below w.heap.size w w' := by
  have hT := pr2_new 25 w N d
  have c0 := hT.cell0
  have c1 := hT.cell1
  have HB := Lib.hid (below_alloc w (.cells #[.int .i64 N, .int .i64 d] 25))
  clear hT
  by_cases h1 : 1 ≤ d
  · by_cases h2 : d ≤ 100
    · by_cases h3 : 0 ≤ N
      · by_cases h4 : N ≤ d
        · have HR : Hid (goodN N d = true) := Lib.hid (by simp [goodN, h1, h2, h3, h4])
          rw [HR.out]
          go_enter Try.func17, Try.ntmps17
          go_wp2
          go_ret
          exact ⟨rfl, HB.out⟩
        · have HR : Hid (goodN N d = false) := Lib.hid (by simp [goodN, h4])
          rw [HR.out]
          go_enter Try.func17, Try.ntmps17
          go_wp2
          go_ret
          exact ⟨rfl, HB.out⟩
      · have HR : Hid (goodN N d = false) := Lib.hid (by simp [goodN, h3])
        rw [HR.out]
        go_enter Try.func17, Try.ntmps17
        go_wp2
        go_ret
        exact ⟨rfl, HB.out⟩
    · have HR : Hid (goodN N d = false) := Lib.hid (by simp [goodN, h2])
      rw [HR.out]
      go_enter Try.func17, Try.ntmps17
      go_wp2
      go_ret
      exact ⟨rfl, HB.out⟩
  · have HR : Hid (goodN N d = false) := Lib.hid (by simp [goodN, h1])
    rw [HR.out]
    go_enter Try.func17, Try.ntmps17
    go_wp2
    go_ret
    exact ⟨rfl, HB.out⟩

set_option maxHeartbeats 2000000 in
theorem sGood_any (N d : Int) (w : World) :
    Calls Try.prog 56 #[.agg #[.int .i64 N, .int .i64 d]] w fun e w' => e = .returned (.bool (goodN N d)) ∧ Below w.heap.size w w' := by
  have hT := pr2_new 25 w N d
  have c0 := hT.cell0
  have c1 := hT.cell1
  have HB := Lib.hid (below_alloc w (.cells #[.int .i64 N, .int .i64 d] 25))
  have F1 := Lib.hid fun W => in_any d 1 100 W
  have F2 := Lib.hid fun W => in_any N 0 d W
  clear hT
  cases h1 : (decide (1 ≤ d) && decide (d ≤ 100)) with
  | true =>
    have HR : Hid (goodN N d = (decide (0 ≤ N) && decide (N ≤ d))) := Lib.hid (by unfold goodN; rw [h1, Bool.true_and])
    rw [HR.out]
    rw [h1] at F1
    clear h1
    generalize (decide (0 ≤ N) && decide (N ≤ d)) = r at F2 ⊢
    go_enter Try.func56, Try.ntmps56
    go_wp2_with fail
    refine (F1.out _).mono ?_
    rintro e w1 ⟨rfl, hww⟩
    obtain rfl := hww.symm
    go_wp2_with fail
    refine (F2.out _).mono ?_
    rintro e w2 ⟨rfl, hww⟩
    obtain rfl := hww.symm
    go_wp2
    go_ret
    exact ⟨rfl, HB.out⟩
  | false =>
    have HR : Hid (goodN N d = false) := Lib.hid (by unfold goodN; rw [h1, Bool.false_and])
    rw [HR.out]
    rw [h1] at F1
    clear h1
    go_enter Try.func56, Try.ntmps56
    go_wp2_with fail
    refine (F1.out _).mono ?_
    rintro e w1 ⟨rfl, hww⟩
    obtain rfl := hww.symm
    go_wp2
    go_ret
    exact ⟨rfl, HB.out⟩

theorem sIsNoise_any (N d : Int) (w : World) :
    Calls Try.prog 15 #[.agg #[.int .i64 N, .int .i64 d]] w fun e w' => e = .returned (.bool (goodN N d)) ∧ Below w.heap.size w w' := by
  have c0 := load_noi (pr2_new 25 w N d)
  have HB := Lib.hid (below_alloc w (.cells #[.int .i64 N, .int .i64 d] 25))
  have F := Lib.hid fun W => sGood_any N d W
  go_enter Try.func15, Try.ntmps15
  go_wp2_with fail
  refine (F.out _).mono ?_
  rintro e w1 ⟨rfl, hb⟩
  have HB1 := Lib.hid (HB.out.trans (hb.mono (by simp)))
  clear hb c0
  go_wp2
  go_ret
  exact ⟨rfl, HB1.out⟩

set_option maxHeartbeats 2000000 in
theorem toNoise_any (N d : Int) (w : World) :
    Calls Try.prog 16 #[.agg #[.int .i64 N, .int .i64 d]] w fun e w' => e = .returned (.agg #[.int .i64 N, .int .i64 d]) ∧ Below w.heap.size w w' := by
  have hT := pr2_new 23 w N d
  have c0 := hT.cell0
  have c1 := hT.cell1
  clear hT
  go_enter Try.func16, Try.ntmps16
  go_wp2
  have e1 : (w.alloc (.cells #[.int .i64 N, .int .i64 d] 23)).heap.size = w.heap.size + 1 := by simp
  have hR := pr2_new 25 (w.alloc (.cells #[.int .i64 N, .int .i64 d] 23)) N d
  rw [e1] at hR
  refine bodyPost_ret (res_noi rfl _ rfl (hR.below (below_alloc _ _))) rfl ?_
  exact ⟨rfl, ((below_alloc w _).alloc (by simp) _).alloc (by simp; omega) _⟩
end Go.Proofs.Ytomhjfjfmjacfaa
