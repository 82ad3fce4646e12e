/-
  BoundsOf, the program's and the model's. Used by the claim on BoundsOf.
-/
import Derived.Test.YtgfmcpipbmnagaaTofW
import Derived.Test.YtgfmcpipbmnagaaDrfW
import Derived.Laws.StructEq
import Derived.Tactics2
namespace Go.Proofs.Ytgfmcpipbmnagaa
open Go.RowKit
set_option linter.unusedVariables false

theorem eqPairB (a b c d : Int) (w : World) : (Op.equalIn 10000 59 (.agg #[.int .i64 a, .int .i64 b]) (.agg #[.int .i64 c, .int .i64 d])).run Try.prog w = .ok (a == c && b == d) w := by
  have u3 := Try.underlying3
  have a3 := Try.isAgg3
  have z3 := Try.sizeOf3
  rw [show (10000 : Nat) = 9999 + 1 from rfl, Op.equalIn]
  simp only [Sem.run_bind, run_underlying Try.underlying59, Result.andThen_ok]
  simp only [Std.Legacy.Range.forIn_eq_forIn_range', Std.Legacy.Range.size, Nat.sub_zero, Nat.add_sub_cancel, Nat.div_one, List.range'_succ, List.range'_zero, List.forIn_cons, List.forIn_nil]
  go_simp
  by_cases h1 : a = c <;> by_cases h2 : b = d <;> simp [h1, h2]
theorem eqPairB_b {a b c d : Int} {w : World} {r : Bool} (h : (a == c && b == d) = r) : (Op.equalIn 10000 59 (.agg #[.int .i64 a, .int .i64 b]) (.agg #[.int .i64 c, .int .i64 d])).run Try.prog w = .ok r w := by rw [eqPairB, h]
theorem seq_noP (a : Option Addr) (c : Nat) {W W' : World} (hb : Below W.heap.size W W') : SeqOut (prs []) ([] : List (Nat × Nat)).length false W (.returned (.tuple #[.slice a 0 c, .bool false])) W' :=
  ⟨a, W.heap.size, c, rfl, ⟨fun h => by simp [prs] at h, fun j x hx => by simp [prs] at hx⟩, fun h => by simp [prs] at h, fun j hj => by simp [prs] at hj, hb⟩
set_option maxRecDepth 100000 in
set_option maxHeartbeats 4000000 in
theorem bndRun_any (x y : Nat) (u : Nat) (w : World) (hu0 : 1 ≤ u) (hu : u ≤ 99) (h : (x = 1 ∧ (y = 1 ∨ y = 3)) ∨ (x = 0 ∧ (y = 1 ∨ y = 3 ∨ y = 7))) :
    Calls Try.prog 57 #[.agg #[.int .i64 (x : Int), .int .i64 (y : Int)], .int .i64 u] w fun e w' => e = .returned (.agg #[.int .i64 (((bndOf u (x, y)).1 : Nat) : Int), .int .i64 (((bndOf u (x, y)).2 : Nat) : Int)]) ∧ Below w.heap.size w w' := by
  have u0 : (1 : Int) ≤ (u : Int) := by omega
  have u1 : (u : Int) ≤ 99 := by omega
  rcases h with ⟨rfl, rfl | rfl⟩ | ⟨rfl, rfl | rfl | rfl⟩
  · have HV : Hid ((((bndOf u (1, 1)).1 : Nat) : Int) = 1 ∧ (((bndOf u (1, 1)).2 : Nat) : Int) = 2 * (u : Int) - 1) := Lib.hid (by constructor <;> (simp [bndOf]; try omega))
    rw [HV.out.1, HV.out.2]
    have q0 := eqPairB_b (a := 1) (b := 1) (c := 1) (d := 1) (w := (w.alloc (.cells #[.int .i64 1, .int .i64 1] 59)).alloc (.cells #[.int .i64 0, .int .i64 0] 59)) (r := true) rfl
    have hT := two_new w 1 1
    have c1 := (hT.below (below_alloc _ (.cells #[.int .i64 0, .int .i64 0] 59))).cell0
    have c2 := (hT.below (below_alloc _ (.cells #[.int .i64 0, .int .i64 0] 59))).cell1
    have e0 : (w.alloc (.cells #[.int .i64 1, .int .i64 1] 59)).heap.size = w.heap.size + 1 := by simp
    have HR : Hid (Two ((w.alloc (.cells #[.int .i64 1, .int .i64 1] 59)).alloc (.cells #[.int .i64 (1), .int .i64 (2 * (u : Int) - 1)] 59)) (w.heap.size + 1) (1) (2 * (u : Int) - 1)) := Lib.hid (by rw [← e0]; exact two_new _ _ _)
    have HB : Hid (Below w.heap.size w ((w.alloc (.cells #[.int .i64 1, .int .i64 1] 59)).alloc (.cells #[.int .i64 (1), .int .i64 (2 * (u : Int) - 1)] 59))) := Lib.hid ((below_alloc w _).alloc (below_alloc w _).size _)
    clear hT e0
    go_enter Try.func57, Try.ntmps57
    go_wp2
    refine bodyPost_ret (res_twoR rfl _ rfl HR.out) rfl ?_
    exact ⟨rfl, HB.out⟩
  · have HV : Hid ((((bndOf u (1, 3)).1 : Nat) : Int) = 2 * (u : Int) ∧ (((bndOf u (1, 3)).2 : Nat) : Int) = 999) := Lib.hid (by constructor <;> (simp [bndOf]; try omega))
    rw [HV.out.1, HV.out.2]
    have q0 := eqPairB_b (a := 1) (b := 3) (c := 1) (d := 1) (w := (w.alloc (.cells #[.int .i64 1, .int .i64 3] 59)).alloc (.cells #[.int .i64 0, .int .i64 0] 59)) (r := false) rfl
    have q1 := eqPairB_b (a := 1) (b := 3) (c := 1) (d := 3) (w := (w.alloc (.cells #[.int .i64 1, .int .i64 3] 59)).alloc (.cells #[.int .i64 0, .int .i64 0] 59)) (r := true) rfl
    have hT := two_new w 1 3
    have c1 := (hT.below (below_alloc _ (.cells #[.int .i64 0, .int .i64 0] 59))).cell0
    have c2 := (hT.below (below_alloc _ (.cells #[.int .i64 0, .int .i64 0] 59))).cell1
    have e0 : (w.alloc (.cells #[.int .i64 1, .int .i64 3] 59)).heap.size = w.heap.size + 1 := by simp
    have HR : Hid (Two ((w.alloc (.cells #[.int .i64 1, .int .i64 3] 59)).alloc (.cells #[.int .i64 (2 * (u : Int)), .int .i64 (999)] 59)) (w.heap.size + 1) (2 * (u : Int)) (999)) := Lib.hid (by rw [← e0]; exact two_new _ _ _)
    have HB : Hid (Below w.heap.size w ((w.alloc (.cells #[.int .i64 1, .int .i64 3] 59)).alloc (.cells #[.int .i64 (2 * (u : Int)), .int .i64 (999)] 59))) := Lib.hid ((below_alloc w _).alloc (below_alloc w _).size _)
    clear hT e0
    go_enter Try.func57, Try.ntmps57
    go_wp2
    refine bodyPost_ret (res_twoR rfl _ rfl HR.out) rfl ?_
    exact ⟨rfl, HB.out⟩
  · have HV : Hid ((((bndOf u (0, 1)).1 : Nat) : Int) = 1 ∧ (((bndOf u (0, 1)).2 : Nat) : Int) = 2 * (u : Int) - 1) := Lib.hid (by constructor <;> (simp [bndOf]; try omega))
    rw [HV.out.1, HV.out.2]
    have q0 := eqPairB_b (a := 0) (b := 1) (c := 1) (d := 1) (w := (w.alloc (.cells #[.int .i64 0, .int .i64 1] 59)).alloc (.cells #[.int .i64 0, .int .i64 0] 59)) (r := false) rfl
    have q1 := eqPairB_b (a := 0) (b := 1) (c := 1) (d := 3) (w := (w.alloc (.cells #[.int .i64 0, .int .i64 1] 59)).alloc (.cells #[.int .i64 0, .int .i64 0] 59)) (r := false) rfl
    have q2 := eqPairB_b (a := 0) (b := 1) (c := 0) (d := 1) (w := (w.alloc (.cells #[.int .i64 0, .int .i64 1] 59)).alloc (.cells #[.int .i64 0, .int .i64 0] 59)) (r := true) rfl
    have hT := two_new w 0 1
    have c1 := (hT.below (below_alloc _ (.cells #[.int .i64 0, .int .i64 0] 59))).cell0
    have c2 := (hT.below (below_alloc _ (.cells #[.int .i64 0, .int .i64 0] 59))).cell1
    have e0 : (w.alloc (.cells #[.int .i64 0, .int .i64 1] 59)).heap.size = w.heap.size + 1 := by simp
    have HR : Hid (Two ((w.alloc (.cells #[.int .i64 0, .int .i64 1] 59)).alloc (.cells #[.int .i64 (1), .int .i64 (2 * (u : Int) - 1)] 59)) (w.heap.size + 1) (1) (2 * (u : Int) - 1)) := Lib.hid (by rw [← e0]; exact two_new _ _ _)
    have HB : Hid (Below w.heap.size w ((w.alloc (.cells #[.int .i64 0, .int .i64 1] 59)).alloc (.cells #[.int .i64 (1), .int .i64 (2 * (u : Int) - 1)] 59))) := Lib.hid ((below_alloc w _).alloc (below_alloc w _).size _)
    clear hT e0
    go_enter Try.func57, Try.ntmps57
    go_wp2
    refine bodyPost_ret (res_twoR rfl _ rfl HR.out) rfl ?_
    exact ⟨rfl, HB.out⟩
  · have HV : Hid ((((bndOf u (0, 3)).1 : Nat) : Int) = 2 * (u : Int) ∧ (((bndOf u (0, 3)).2 : Nat) : Int) = 5 * (u : Int) - 1) := Lib.hid (by constructor <;> (simp [bndOf]; try omega))
    rw [HV.out.1, HV.out.2]
    have q0 := eqPairB_b (a := 0) (b := 3) (c := 1) (d := 1) (w := (w.alloc (.cells #[.int .i64 0, .int .i64 3] 59)).alloc (.cells #[.int .i64 0, .int .i64 0] 59)) (r := false) rfl
    have q1 := eqPairB_b (a := 0) (b := 3) (c := 1) (d := 3) (w := (w.alloc (.cells #[.int .i64 0, .int .i64 3] 59)).alloc (.cells #[.int .i64 0, .int .i64 0] 59)) (r := false) rfl
    have q2 := eqPairB_b (a := 0) (b := 3) (c := 0) (d := 1) (w := (w.alloc (.cells #[.int .i64 0, .int .i64 3] 59)).alloc (.cells #[.int .i64 0, .int .i64 0] 59)) (r := false) rfl
    have q3 := eqPairB_b (a := 0) (b := 3) (c := 0) (d := 3) (w := (w.alloc (.cells #[.int .i64 0, .int .i64 3] 59)).alloc (.cells #[.int .i64 0, .int .i64 0] 59)) (r := true) rfl
    have hT := two_new w 0 3
    have c1 := (hT.below (below_alloc _ (.cells #[.int .i64 0, .int .i64 0] 59))).cell0
    have c2 := (hT.below (below_alloc _ (.cells #[.int .i64 0, .int .i64 0] 59))).cell1
    have e0 : (w.alloc (.cells #[.int .i64 0, .int .i64 3] 59)).heap.size = w.heap.size + 1 := by simp
    have HR : Hid (Two ((w.alloc (.cells #[.int .i64 0, .int .i64 3] 59)).alloc (.cells #[.int .i64 (2 * (u : Int)), .int .i64 (5 * (u : Int) - 1)] 59)) (w.heap.size + 1) (2 * (u : Int)) (5 * (u : Int) - 1)) := Lib.hid (by rw [← e0]; exact two_new _ _ _)
    have HB : Hid (Below w.heap.size w ((w.alloc (.cells #[.int .i64 0, .int .i64 3] 59)).alloc (.cells #[.int .i64 (2 * (u : Int)), .int .i64 (5 * (u : Int) - 1)] 59))) := Lib.hid ((below_alloc w _).alloc (below_alloc w _).size _)
    clear hT e0
    go_enter Try.func57, Try.ntmps57
    go_wp2
    refine bodyPost_ret (res_twoR rfl _ rfl HR.out) rfl ?_
    exact ⟨rfl, HB.out⟩
  · have HV : Hid ((((bndOf u (0, 7)).1 : Nat) : Int) = 5 * (u : Int) ∧ (((bndOf u (0, 7)).2 : Nat) : Int) = 999) := Lib.hid (by constructor <;> (simp [bndOf]; try omega))
    rw [HV.out.1, HV.out.2]
    have q0 := eqPairB_b (a := 0) (b := 7) (c := 1) (d := 1) (w := (w.alloc (.cells #[.int .i64 0, .int .i64 7] 59)).alloc (.cells #[.int .i64 0, .int .i64 0] 59)) (r := false) rfl
    have q1 := eqPairB_b (a := 0) (b := 7) (c := 1) (d := 3) (w := (w.alloc (.cells #[.int .i64 0, .int .i64 7] 59)).alloc (.cells #[.int .i64 0, .int .i64 0] 59)) (r := false) rfl
    have q2 := eqPairB_b (a := 0) (b := 7) (c := 0) (d := 1) (w := (w.alloc (.cells #[.int .i64 0, .int .i64 7] 59)).alloc (.cells #[.int .i64 0, .int .i64 0] 59)) (r := false) rfl
    have q3 := eqPairB_b (a := 0) (b := 7) (c := 0) (d := 3) (w := (w.alloc (.cells #[.int .i64 0, .int .i64 7] 59)).alloc (.cells #[.int .i64 0, .int .i64 0] 59)) (r := false) rfl
    have hT := two_new w 0 7
    have c1 := (hT.below (below_alloc _ (.cells #[.int .i64 0, .int .i64 0] 59))).cell0
    have c2 := (hT.below (below_alloc _ (.cells #[.int .i64 0, .int .i64 0] 59))).cell1
    have e0 : (w.alloc (.cells #[.int .i64 0, .int .i64 7] 59)).heap.size = w.heap.size + 1 := by simp
    have HR : Hid (Two ((w.alloc (.cells #[.int .i64 0, .int .i64 7] 59)).alloc (.cells #[.int .i64 (5 * (u : Int)), .int .i64 (999)] 59)) (w.heap.size + 1) (5 * (u : Int)) (999)) := Lib.hid (by rw [← e0]; exact two_new _ _ _)
    have HB : Hid (Below w.heap.size w ((w.alloc (.cells #[.int .i64 0, .int .i64 7] 59)).alloc (.cells #[.int .i64 (5 * (u : Int)), .int .i64 (999)] 59))) := Lib.hid ((below_alloc w _).alloc (below_alloc w _).size _)
    clear hT e0
    go_enter Try.func57, Try.ntmps57
    go_wp2
    refine bodyPost_ret (res_twoR rfl _ rfl HR.out) rfl ?_
    exact ⟨rfl, HB.out⟩
theorem sBoundsOf_no1 (s : ByteArray) (x : Int) (w : World) (hs : s.size ≤ 1048576) (h1 : (pieces (bl s)).isSome = false) :
    Calls Try.prog 26 #[.string s, .int .i64 x] w (SeqOut (prs []) ([] : List (Nat × Nat)).length false w) := by
  have F1 := sSig_f s false h1 hs
  clear h1
  go_enter Try.func26, Try.ntmps26
  go_wp2_with fail
  refine (F1.out _).mono ?_
  rintro e w1 ⟨rfl, hb⟩
  have HB : Hid (Below w.heap.size w w1) := Lib.hid (by first | exact hb | exact (below_alloc w _).trans (hb.mono (below_alloc w _).size))
  clear hb
  go_wp2
  (first | go_ret | go_ret2)
  exact seq_noP _ _ (by first | exact HB.out | exact HB.out.alloc HB.out.size _)
theorem sBoundsOf_no2 (s : ByteArray) (x : Int) (w : World) (hs : s.size ≤ 1048576) (h1 : (pieces (bl s)).isSome = true) (h2 : s.size = 0) :
    Calls Try.prog 26 #[.string s, .int .i64 x] w (SeqOut (prs []) ([] : List (Nat × Nat)).length false w) := by
  have F1 := sSig_f s true h1 hs
  have he := empty_yes h2
  clear h1 h2
  go_enter Try.func26, Try.ntmps26
  go_wp2_with fail
  refine (F1.out _).mono ?_
  rintro e w1 ⟨rfl, hb⟩
  have HB : Hid (Below w.heap.size w w1) := Lib.hid (by first | exact hb | exact (below_alloc w _).trans (hb.mono (below_alloc w _).size))
  clear hb
  go_wp2
  (first | go_ret | go_ret2)
  exact seq_noP _ _ (by first | exact HB.out | exact HB.out.alloc HB.out.size _)
theorem sBoundsOf_no3 (s : ByteArray) (x : Int) (w : World) (hs : s.size ≤ 1048576) (h1 : (pieces (bl s)).isSome = true) (h2 : s.size ≠ 0) (h3 : okUnit x = false) :
    Calls Try.prog 26 #[.string s, .int .i64 x] w (SeqOut (prs []) ([] : List (Nat × Nat)).length false w) := by
  have F1 := sSig_f s true h1 hs
  have he := empty_no h2
  have F3 := sUnit_f x false h3
  clear h1 h2 h3
  go_enter Try.func26, Try.ntmps26
  go_wp2_with fail
  refine (F1.out _).mono ?_
  rintro e w1 ⟨rfl, hb⟩
  have HB : Hid (Below w.heap.size w w1) := Lib.hid (by first | exact hb | exact (below_alloc w _).trans (hb.mono (below_alloc w _).size))
  clear hb
  go_wp2_with fail
  refine (F3.out _).mono ?_
  rintro e w3 ⟨rfl, hww⟩
  obtain rfl := hww.symm
  go_wp2
  (first | go_ret | go_ret2)
  exact seq_noP _ _ (by first | exact HB.out | exact HB.out.alloc HB.out.size _)
theorem boundsOf_no1 (s : ByteArray) (x : Int) (w : World) (hs : s.size ≤ 1048576) (h1 : (pieces (bl s)).isSome = false) :
    Calls Try.prog 27 #[.string s, .int .i64 x] w (SeqOut (prs []) ([] : List (Nat × Nat)).length false w) := by
  have F1 := isSig_f s false h1 hs
  clear h1
  go_enter Try.func27, Try.ntmps27
  go_wp2_with fail
  refine (F1.out _).mono ?_
  rintro e w1 ⟨rfl, hb⟩
  have HB : Hid (Below w.heap.size w w1) := Lib.hid (by first | exact hb | exact (below_alloc w _).trans (hb.mono (below_alloc w _).size))
  clear hb
  go_wp2
  (first | go_ret | go_ret2)
  exact seq_noP _ _ (by first | exact HB.out | exact HB.out.alloc HB.out.size _)
theorem boundsOf_no2 (s : ByteArray) (x : Int) (w : World) (hs : s.size ≤ 1048576) (h1 : (pieces (bl s)).isSome = true) (h2 : s.size = 0) :
    Calls Try.prog 27 #[.string s, .int .i64 x] w (SeqOut (prs []) ([] : List (Nat × Nat)).length false w) := by
  have F1 := isSig_f s true h1 hs
  have he := empty_yes h2
  clear h1 h2
  go_enter Try.func27, Try.ntmps27
  go_wp2_with fail
  refine (F1.out _).mono ?_
  rintro e w1 ⟨rfl, hb⟩
  have HB : Hid (Below w.heap.size w w1) := Lib.hid (by first | exact hb | exact (below_alloc w _).trans (hb.mono (below_alloc w _).size))
  clear hb
  go_wp2
  (first | go_ret | go_ret2)
  exact seq_noP _ _ (by first | exact HB.out | exact HB.out.alloc HB.out.size _)
theorem boundsOf_no3 (s : ByteArray) (x : Int) (w : World) (hs : s.size ≤ 1048576) (h1 : (pieces (bl s)).isSome = true) (h2 : s.size ≠ 0) (h3 : okUnit x = false) :
    Calls Try.prog 27 #[.string s, .int .i64 x] w (SeqOut (prs []) ([] : List (Nat × Nat)).length false w) := by
  have F1 := isSig_f s true h1 hs
  have he := empty_no h2
  have F3 := isUnit_f x false h3
  clear h1 h2 h3
  go_enter Try.func27, Try.ntmps27
  go_wp2_with fail
  refine (F1.out _).mono ?_
  rintro e w1 ⟨rfl, hb⟩
  have HB : Hid (Below w.heap.size w w1) := Lib.hid (by first | exact hb | exact (below_alloc w _).trans (hb.mono (below_alloc w _).size))
  clear hb
  go_wp2_with fail
  refine (F3.out _).mono ?_
  rintro e w3 ⟨rfl, hww⟩
  obtain rfl := hww.symm
  go_wp2
  (first | go_ret | go_ret2)
  exact seq_noP _ _ (by first | exact HB.out | exact HB.out.alloc HB.out.size _)
def bndTo (l : Bs) (u k : Nat) : List (Nat × Nat) := ((rsL l).take k).map (bndOf u)
def bndL (l : Bs) (u : Nat) : List (Nat × Nat) := (rsL l).map (bndOf u)
theorem bndTo_succ {l : Bs} {u k : Nat} (h : k < (rsL l).length) : bndTo l u (k + 1) = bndTo l u k ++ [bndOf u (rsL l)[k]] := by
  unfold bndTo
  rw [List.take_add_one, List.getElem?_eq_getElem h, List.map_append]
  rfl
theorem bndTo_all (l : Bs) (u : Nat) : bndTo l u (rsL l).length = bndL l u := by unfold bndTo bndL; rw [List.take_length]
theorem rsL_alt {s : ByteArray} {ps : List Bs} (h : pieces (bl s) = some ps) {k : Nat} (hk : k < (rsL (bl s)).length) : altAt k (rsL (bl s))[k] := (sig_alt h _ (Nat.le_refl _)).2 k _ (List.getElem?_eq_getElem hk)
set_option maxHeartbeats 8000000 in
set_option maxRecDepth 8000 in
theorem boundsOf_yes (s : ByteArray) (u : Nat) (w : World) (ps : List Bs) (hps : pieces (bl s) = some ps) (h0 : s.size ≠ 0) (hu0 : 1 ≤ u) (hu : u ≤ 99) :
    Calls Try.prog 27 #[.string s, .int .i64 u] w (SeqOut (prs (bndL (bl s) u)) (bndL (bl s) u).length true w) := by
  obtain ⟨i0, hi, hz0, hz1, hz2⟩ := info_parts infoPair
  have hs := sig_short hps
  have F1 := isSig_f s true (by rw [hps]; rfl) (by omega)
  have he := empty_no h0
  have F3 := isUnit_f (u : Int) true (okUnit_of u hu0 hu)
  have HR := Lib.hid fun w => runsSig_any s w ps hps
  have hrl := rsL_len s hs
  have HAlt := Lib.hid fun k (hk : k < (rsL (bl s)).length) => rsL_alt hps hk
  clear hps h0
  go_enter Try.func27, Try.ntmps27
  go_wp2_with fail
  refine (F1.out _).mono ?_
  rintro e w1 ⟨rfl, hb⟩
  have HB := Lib.hid hb
  clear hb
  go_wp2_with fail
  refine (F3.out _).mono ?_
  rintro e w3 ⟨rfl, hww⟩
  obtain rfl := hww.symm
  have M0 : Hid ((w1.alloc (Obj.cells #[] 59)).ownsRow w.heap.size 59 2 (.slice (some ⟨w1.heap.size, 0, none⟩) 0 0) 0 (prs [])) := Lib.hid (World.ownsRow_made (base := w.heap.size) (e := 59) (size := 2) w1 #[] 0 HB.out.size (by unfold maxLen; omega) rfl)
  go_wp2_with fail
  refine (HR.out _).mono ?_
  rintro e w4 ⟨rv, rfl, hrow, hb⟩
  have hsz1 : w.heap.size ≤ (w1.alloc (Obj.cells #[] 59)).heap.size := Nat.le_trans HB.out.size (below_alloc w1 _).size
  have HB4 : Hid (Below w.heap.size w w4) := Lib.hid ((HB.out.alloc HB.out.size _).trans (hb.mono hsz1))
  have HM4 := Lib.hid (row_below M0.out hb)
  have HRow := Lib.hid (row_mono hrow hsz1)
  obtain ⟨ra, rc, rfl⟩ := row_form hrow
  have HNe : Hid (∀ g, ra = some ⟨g, 0, none⟩ → g ≠ w1.heap.size) := Lib.hid fun g e e2 => by
    have := (hrow.lt g (by rw [e]; rfl)).1
    have e0 : (w1.alloc (Obj.cells #[] 59)).heap.size = w1.heap.size + 1 := by simp
    omega
  clear hb hrow hsz1
  go_wp2
  go_loopw [6, 25] (fun pv v wr => ∃ (k go co : Nat), v = .int .i64 (k : Int) ∧ k ≤ (rsL (bl s)).length ∧ pv = .slice (some ⟨go, 0, none⟩) k co ∧ wr.ownsRow w.heap.size 59 2 (.slice (some ⟨go, 0, none⟩) k co) k (prs (bndTo (bl s) u k)) ∧ Hid (∀ g, ra = some ⟨g, 0, none⟩ → g ≠ go) ∧ Hid (wr.ownsRow w.heap.size 59 2 (.slice ra (rsL (bl s)).length rc) (rsL (bl s)).length (prs (rsL (bl s)))) ∧ Hid (Below w.heap.size w wr)) (fun _ v _ => (rsL (bl s)).length - (intOf v).toNat)
  case atStart => exact ⟨0, w1.heap.size, 0, rfl, Nat.zero_le _, rfl, HM4.out, HNe, HRow, HB4⟩
  case round =>
    obtain ⟨k, go, co, rfl, hk, rfl, hown, HNe2, HRw, HB5⟩ := hrel
    by_cases hlt : k < (rsL (bl s)).length
    · obtain ⟨g, c, hv, d1, d2⟩ := pair_cells HRw.out hlt
      injection hv with hv1 _ hv3
      subst hv1 hv3
      have HG : Hid (g ≠ go) := Lib.hid (HNe2.out g rfl)
      have hal := HAlt.out k hlt
      have HN := Lib.hid (bndTo_succ (u := u) hlt)
      obtain ⟨⟨x, y⟩, hq⟩ : ∃ q, (rsL (bl s))[k] = q := ⟨_, rfl⟩
      rw [hq] at hal d1 d2 HN
      simp only at d1 d2
      have HBn := Lib.hid fun w => bndRun_any x y u w hu0 hu (by
        rcases hal with ⟨_, h1, h2⟩ | ⟨_, h1, h2⟩
        · exact .inl ⟨h1, h2⟩
        · exact .inr ⟨h1, h2⟩)
      generalize bndOf u (x, y) = q at HN HBn
      generalize bndTo (bl s) u k = tk at hown HN
      obtain ⟨a1, a2, _, _⟩ := app_pairs k (by omega)
      have k0 : (0 : Int) ≤ (k : Int) := by omega
      have k1 : (k : Int) < ((rsL (bl s)).length : Int) := by omega
      have HKl : Hid (k + 1 ≤ (rsL (bl s)).length) := Lib.hid hlt
      have c1 := (two_new wr (x : Int) (y : Int)).cell0
      have c2 := (two_new wr (x : Int) (y : Int)).cell1
      have HO1 := Lib.hid (hown.alloc (.cells #[.int .i64 (x : Int), .int .i64 (y : Int)] 59))
      have HR1 := Lib.hid (HRw.out.alloc (.cells #[.int .i64 (x : Int), .int .i64 (y : Int)] 59))
      have HB6 : Hid (Below w.heap.size w (wr.alloc (.cells #[.int .i64 (x : Int), .int .i64 (y : Int)] 59))) := Lib.hid (HB5.out.alloc HB5.out.size _)
      clear hq hown hal
      go_wp2_with fail
      refine (HBn.out _).mono ?_
      rintro e w5 ⟨rfl, hb⟩
      have hown5 := row_below HO1.out hb
      have HR5 := Lib.hid (row_below HR1.out hb)
      have HB7 : Hid (Below w.heap.size w w5) := Lib.hid (HB6.out.trans (hb.mono HB6.out.size))
      have HGl : Hid (g < w5.heap.size) := Lib.hid (HR5.out.lt g rfl).2
      have HOl : Hid (∀ q, (Value.slice (some ⟨go, 0, none⟩) k co).ownBlock = some q → w.heap.size ≤ q ∧ q < w5.heap.size) := Lib.hid hown5.lt
      have hsz := HB7.out.size
      have hH : (w5.alloc (.cells #[.int .i64 (q.1 : Int), .int .i64 (q.2 : Int)] 59)).heap.size = w5.heap.size + 1 := by simp
      have HH := Lib.hid hH
      clear hb c1 c2 d1 d2 hH
      go_wp2_with (at_builtin; refine wpList_append_lies _ rfl _ _ 35 rfl w.heap.size 59 i0 (.agg #[.int .i64 0, .int .i64 0]) 2 16 Try.underlying35 hi hz0 hz1 hz2 rfl (by decide) _ _ _ rfl (hown5.alloc _) ⟨w5.heap.size, 0, none⟩ 1 1 [.int .i64 (q.1 : Int), .int .i64 (q.2 : Int)] rfl rfl (cell_two_new _ _ _ _) (by simp [Value.oneCell']) (by decide) a1 a2 (Nat.le_trans hsz (below_alloc w5 _).size) (w5.heap.size + 1) HH.out ?_; intro gg cg w6 hownN hgrow hat hgl)
      have HW6 : Hid (w6.ownsRow w.heap.size 59 2 (.slice (some ⟨gg, 0, none⟩) (k + 1) cg) (k + 1) (prs (bndTo (bl s) u (k + 1)))) := Lib.hid (by
        rw [HN.out, show prs (tk ++ [q]) = prs tk ++ [.int .i64 (q.1 : Int), .int .i64 (q.2 : Int)] from prs_snoc tk q.1 q.2]
        exact hownN)
      have HR6 : Hid (w6.ownsRow w.heap.size 59 2 (.slice (some ⟨g, 0, none⟩) (rsL (bl s)).length rc) (rsL (bl s)).length (prs (rsL (bl s)))) := Lib.hid ((HR5.out.alloc _).kept hgrow (.inr (by intro e; injection e with e; exact HG.out e)))
      have HN6 : Hid (∀ g', some (⟨g, 0, none⟩ : Addr) = some ⟨g', 0, none⟩ → g' ≠ gg) := Lib.hid (by
        intro g' e
        injection e with e
        injection e with e
        subst e
        rcases hat with e2 | e2
        · injection e2 with e2
          rw [← e2]; exact HG.out
        · have := HGl.out; omega)
      have HB8 : Hid (Below w.heap.size w w6) := Lib.hid ((HB7.out.alloc HB7.out.size _).grown hgrow (Nat.le_trans HB7.out.size (below_alloc _ _).size) (fun q e => (HOl.out q e).1))
      clear hownN hgrow hown5 a1 a2 hsz hat hgl
      go_wp2
      go_roundw
      case rel => exact ⟨k + 1, gg, cg, by go_num, HKl.out, rfl, HW6.out, HN6, HR6, HB8⟩
      case measure => simp [intOf]; omega
    · obtain rfl : k = (rsL (bl s)).length := by omega
      have hcl : (bndL (bl s) u).length = (rsL (bl s)).length := by simp [bndL]
      rw [bndTo_all, ← hcl] at hown
      obtain ⟨a', g', c', hv, hs', hg', ho'⟩ := seq_of_row hown
      injection hv with hv1 hv2 hv3
      subst hv1 hv3
      have HSq := Lib.hid (And.intro hs' (And.intro hg' ho'))
      have HCl := Lib.hid hcl
      clear hs' hg' ho' hown hcl
      go_wp2
      (first | go_ret | go_ret2)
      exact ⟨_, g', _, by rw [HCl.out]; rfl, HSq.out.1, HSq.out.2.1, HSq.out.2.2, HB5.out⟩
set_option maxHeartbeats 8000000 in
set_option maxRecDepth 8000 in
theorem sBoundsOf_yes (s : ByteArray) (u : Nat) (w : World) (ps : List Bs) (hps : pieces (bl s) = some ps) (h0 : s.size ≠ 0) (hu0 : 1 ≤ u) (hu : u ≤ 99) :
    Calls Try.prog 26 #[.string s, .int .i64 u] w (SeqOut (prs (bndL (bl s) u)) (bndL (bl s) u).length true w) := by
  obtain ⟨i0, hi, hz0, hz1, hz2⟩ := info_parts infoPair
  have hs := sig_short hps
  have F1 := sSig_f s true (by rw [hps]; rfl) (by omega)
  have he := empty_no h0
  have F3 := sUnit_f (u : Int) true (okUnit_of u hu0 hu)
  have HR := Lib.hid fun w => exact_any s w ps hps
  have hrl := rsL_len s hs
  have HAlt := Lib.hid fun k (hk : k < (rsL (bl s)).length) => rsL_alt hps hk
  have HEl : Hid ((exTo (bl s) s.size).length = (rsL (bl s)).length) := Lib.hid (by unfold exTo rsL; rw [List.length_map, bl_len])
  have HEa : Hid (∀ k (h : k < (rsL (bl s)).length), (exTo (bl s) s.size)[k]? = some (rsL (bl s))[k].2) := Lib.hid fun k h => by
    have e : exTo (bl s) s.size = (rsL (bl s)).map Prod.snd := by unfold exTo rsL; rw [bl_len]
    rw [e, List.getElem?_map, List.getElem?_eq_getElem h]; rfl
  have u0 : (1 : Int) ≤ (u : Int) := by omega
  have u1 : (u : Int) ≤ 99 := by omega
  have M0 : Hid ((w.alloc (Obj.cells #[] 59)).ownsRow w.heap.size 59 2 (.slice (some ⟨w.heap.size, 0, none⟩) 0 0) 0 (prs [])) := Lib.hid (World.ownsRow_made (base := w.heap.size) (e := 59) (size := 2) w #[] 0 (Nat.le_refl _) (by unfold maxLen; omega) rfl)
  clear hps h0
  generalize exTo (bl s) s.size = ex at HR HEl HEa
  go_enter Try.func26, Try.ntmps26
  go_wp2_with fail
  refine (F1.out _).mono ?_
  rintro e w1 ⟨rfl, hb⟩
  have HB : Hid (Below w.heap.size w w1) := Lib.hid ((below_alloc w _).trans (hb.mono (below_alloc w _).size))
  have HM1 := Lib.hid (row_below M0.out hb)
  clear hb
  go_wp2_with fail
  refine (F3.out _).mono ?_
  rintro e w3 ⟨rfl, hww⟩
  obtain rfl := hww.symm
  go_wp2_with fail
  refine (HR.out _).mono ?_
  rintro e w4 ⟨rv, rfl, hrow, hb⟩
  have HB4 : Hid (Below w.heap.size w w4) := Lib.hid (HB.out.trans (hb.mono HB.out.size))
  have HM4 := Lib.hid (row_below HM1.out hb)
  have HRow := Lib.hid (row_mono hrow HB.out.size)
  obtain ⟨ra, rc, rfl⟩ := row_form hrow
  clear hb hrow
  go_wp2
  go_loopw [6, 8] (fun pv v wr => ∃ k : Nat, v = .int .i64 (k : Int) ∧ k ≤ (rsL (bl s)).length ∧ wr.ownsRow w.heap.size 59 2 pv k (prs (bndTo (bl s) u k)) ∧ Hid (wr.ownsRow w.heap.size 3 1 (.slice ra ex.length rc) ex.length (ints ex)) ∧ Hid (Below w.heap.size w wr)) (fun _ v _ => (rsL (bl s)).length - (intOf v).toNat)
  case atStart => exact ⟨0, rfl, Nat.zero_le _, HM4.out, HRow, HB4⟩
  case round =>
    obtain ⟨k, rfl, hk, hown, HRw, HB5⟩ := hrel
    obtain ⟨av, capv, rfl⟩ := row_form hown
    by_cases hlt : k < (rsL (bl s)).length
    · have hke : k < ex.length := by rw [HEl.out]; exact hlt
      have hal := HAlt.out k hlt
      have HN := Lib.hid (bndTo_succ (u := u) hlt)
      have hex := HEa.out k hlt
      have HAp := Lib.hid (row_apart2 HRw.out hown (by decide))
      obtain ⟨⟨x, y⟩, hq⟩ : ∃ q, (rsL (bl s))[k] = q := ⟨_, rfl⟩
      rw [hq] at hal HN hex
      simp only at hex
      obtain ⟨g, cr, hv, d1⟩ : ∃ g c, (.slice ra ex.length rc : Value) = .slice (some ⟨g, 0, none⟩) ex.length c ∧ wr.cell? ⟨g, k, none⟩ = some (.int .i64 (y : Int)) := by
        obtain ⟨a', g', c', hv, hs', _, _⟩ := seq_of_row HRw.out
        have := hs'.1 (by rw [ints_len]; omega)
        subst this
        refine ⟨g', c', hv, ?_⟩
        have h3 := hs'.2 k (.int .i64 (y : Int)) (by simp [ints, hex])
        exact h3
      injection hv with hv1 _ hv3
      subst hv1 hv3
      have HQ : Hid (∀ A B : Int, ((bndOf u (x, y)).1 : Int) = A → ((bndOf u (x, y)).2 : Int) = B → ∀ tk, prs (tk ++ [bndOf u (x, y)]) = prs tk ++ [.int .i64 A, .int .i64 B]) := Lib.hid fun A B hA hB tk => by
        rw [← hA, ← hB]; exact prs_snoc tk _ _
      generalize bndTo (bl s) u k = tk at hown HN
      have HOl : Hid (∀ q, (Value.slice av k capv).ownBlock = some q → w.heap.size ≤ q ∧ q < wr.heap.size) := Lib.hid hown.lt
      obtain ⟨a1, a2, _, _⟩ := app_pairs k (by omega)
      have k0 : (0 : Int) ≤ (k : Int) := by omega
      have k1 : (k : Int) < (ex.length : Int) := by omega
      have HKl : Hid (k + 1 ≤ (rsL (bl s)).length ∧ (rsL (bl s)).length - (k + 1) < (rsL (bl s)).length - k) := Lib.hid (by omega)
      have hsz := HB5.out.size
      have hpar := par_facts k (by omega)
      clear hq hex hke
      rcases hal with ⟨hp, h1, h2⟩ | ⟨hp, h1, h2⟩
      · rcases h2 with h2 | h2
        · subst h1 h2
          have ht := (hpar.resolve_right (fun h => by omega)).2
          clear hpar hp
          have HV := Lib.hid (HQ.out (1) (2 * (u : Int) - 1) (by simp [bndOf]) (by simp [bndOf]; try omega) tk)
          clear HQ
          go_wp2_with (at_builtin; refine wpList_append_own _ rfl _ _ 35 rfl w.heap.size 59 i0 (.agg #[.int .i64 0, .int .i64 0]) 2 16 Try.underlying35 hi hz0 hz1 hz2 rfl (by decide) _ _ _ rfl (hown.alloc _) ⟨wr.heap.size, 0, none⟩ 1 1 [.int .i64 (1), .int .i64 (2 * (u : Int) - 1)] rfl rfl (cell_two_new _ _ _ _) (by simp [Value.oneCell']) a1 a2 (Nat.le_trans hsz (below_alloc wr _).size) ?_; intro v6 w6 hownN hgrow _)
          have HW6 : Hid (w6.ownsRow w.heap.size 59 2 v6 (k + 1) (prs (bndTo (bl s) u (k + 1)))) := Lib.hid (by rw [HN.out, HV.out]; exact hownN)
          have HR6 : Hid (w6.ownsRow w.heap.size 3 1 (.slice (some ⟨g, 0, none⟩) ex.length rc) ex.length (ints ex)) := Lib.hid ((HRw.out.alloc _).kept hgrow HAp.out)
          have HB7 : Hid (Below w.heap.size w w6) := Lib.hid ((HB5.out.alloc HB5.out.size _).grown hgrow (Nat.le_trans HB5.out.size (below_alloc wr _).size) (fun q e => (HOl.out q e).1))
          clear hownN hgrow hown a1 a2 hsz ht d1
          go_wp2
          go_roundw
          case rel => exact ⟨k + 1, by go_num, HKl.out.1, HW6.out, HR6, HB7⟩
          case measure => simp [intOf]; omega
        · subst h1 h2
          have ht := (hpar.resolve_right (fun h => by omega)).2
          clear hpar hp
          have HV := Lib.hid (HQ.out (2 * (u : Int)) (999) (by simp [bndOf]) (by simp [bndOf]) tk)
          clear HQ
          go_wp2_with (at_builtin; refine wpList_append_own _ rfl _ _ 35 rfl w.heap.size 59 i0 (.agg #[.int .i64 0, .int .i64 0]) 2 16 Try.underlying35 hi hz0 hz1 hz2 rfl (by decide) _ _ _ rfl (hown.alloc _) ⟨wr.heap.size, 0, none⟩ 1 1 [.int .i64 (2 * (u : Int)), .int .i64 (999)] rfl rfl (cell_two_new _ _ _ _) (by simp [Value.oneCell']) a1 a2 (Nat.le_trans hsz (below_alloc wr _).size) ?_; intro v6 w6 hownN hgrow _)
          have HW6 : Hid (w6.ownsRow w.heap.size 59 2 v6 (k + 1) (prs (bndTo (bl s) u (k + 1)))) := Lib.hid (by rw [HN.out, HV.out]; exact hownN)
          have HR6 : Hid (w6.ownsRow w.heap.size 3 1 (.slice (some ⟨g, 0, none⟩) ex.length rc) ex.length (ints ex)) := Lib.hid ((HRw.out.alloc _).kept hgrow HAp.out)
          have HB7 : Hid (Below w.heap.size w w6) := Lib.hid ((HB5.out.alloc HB5.out.size _).grown hgrow (Nat.le_trans HB5.out.size (below_alloc wr _).size) (fun q e => (HOl.out q e).1))
          clear hownN hgrow hown a1 a2 hsz ht d1
          go_wp2
          go_roundw
          case rel => exact ⟨k + 1, by go_num, HKl.out.1, HW6.out, HR6, HB7⟩
          case measure => simp [intOf]; omega
      · rcases h2 with h2 | h2 | h2
        · subst h1 h2
          have ht := (hpar.resolve_left (fun h => by omega)).2
          clear hpar hp
          have HV := Lib.hid (HQ.out (1) (2 * (u : Int) - 1) (by simp [bndOf]) (by simp [bndOf]; try omega) tk)
          clear HQ
          go_wp2_with (at_builtin; refine wpList_append_own _ rfl _ _ 35 rfl w.heap.size 59 i0 (.agg #[.int .i64 0, .int .i64 0]) 2 16 Try.underlying35 hi hz0 hz1 hz2 rfl (by decide) _ _ _ rfl (hown.alloc _) ⟨wr.heap.size, 0, none⟩ 1 1 [.int .i64 (1), .int .i64 (2 * (u : Int) - 1)] rfl rfl (cell_two_new _ _ _ _) (by simp [Value.oneCell']) a1 a2 (Nat.le_trans hsz (below_alloc wr _).size) ?_; intro v6 w6 hownN hgrow _)
          have HW6 : Hid (w6.ownsRow w.heap.size 59 2 v6 (k + 1) (prs (bndTo (bl s) u (k + 1)))) := Lib.hid (by rw [HN.out, HV.out]; exact hownN)
          have HR6 : Hid (w6.ownsRow w.heap.size 3 1 (.slice (some ⟨g, 0, none⟩) ex.length rc) ex.length (ints ex)) := Lib.hid ((HRw.out.alloc _).kept hgrow HAp.out)
          have HB7 : Hid (Below w.heap.size w w6) := Lib.hid ((HB5.out.alloc HB5.out.size _).grown hgrow (Nat.le_trans HB5.out.size (below_alloc wr _).size) (fun q e => (HOl.out q e).1))
          clear hownN hgrow hown a1 a2 hsz ht d1
          go_wp2
          go_roundw
          case rel => exact ⟨k + 1, by go_num, HKl.out.1, HW6.out, HR6, HB7⟩
          case measure => simp [intOf]; omega
        · subst h1 h2
          have ht := (hpar.resolve_left (fun h => by omega)).2
          clear hpar hp
          have HV := Lib.hid (HQ.out (2 * (u : Int)) (5 * (u : Int) - 1) (by simp [bndOf]) (by simp [bndOf]; try omega) tk)
          clear HQ
          go_wp2_with (at_builtin; refine wpList_append_own _ rfl _ _ 35 rfl w.heap.size 59 i0 (.agg #[.int .i64 0, .int .i64 0]) 2 16 Try.underlying35 hi hz0 hz1 hz2 rfl (by decide) _ _ _ rfl (hown.alloc _) ⟨wr.heap.size, 0, none⟩ 1 1 [.int .i64 (2 * (u : Int)), .int .i64 (5 * (u : Int) - 1)] rfl rfl (cell_two_new _ _ _ _) (by simp [Value.oneCell']) a1 a2 (Nat.le_trans hsz (below_alloc wr _).size) ?_; intro v6 w6 hownN hgrow _)
          have HW6 : Hid (w6.ownsRow w.heap.size 59 2 v6 (k + 1) (prs (bndTo (bl s) u (k + 1)))) := Lib.hid (by rw [HN.out, HV.out]; exact hownN)
          have HR6 : Hid (w6.ownsRow w.heap.size 3 1 (.slice (some ⟨g, 0, none⟩) ex.length rc) ex.length (ints ex)) := Lib.hid ((HRw.out.alloc _).kept hgrow HAp.out)
          have HB7 : Hid (Below w.heap.size w w6) := Lib.hid ((HB5.out.alloc HB5.out.size _).grown hgrow (Nat.le_trans HB5.out.size (below_alloc wr _).size) (fun q e => (HOl.out q e).1))
          clear hownN hgrow hown a1 a2 hsz ht d1
          go_wp2
          go_roundw
          case rel => exact ⟨k + 1, by go_num, HKl.out.1, HW6.out, HR6, HB7⟩
          case measure => simp [intOf]; omega
        · subst h1 h2
          have ht := (hpar.resolve_left (fun h => by omega)).2
          clear hpar hp
          have HV := Lib.hid (HQ.out (5 * (u : Int)) (999) (by simp [bndOf]) (by simp [bndOf]) tk)
          clear HQ
          go_wp2_with (at_builtin; refine wpList_append_own _ rfl _ _ 35 rfl w.heap.size 59 i0 (.agg #[.int .i64 0, .int .i64 0]) 2 16 Try.underlying35 hi hz0 hz1 hz2 rfl (by decide) _ _ _ rfl (hown.alloc _) ⟨wr.heap.size, 0, none⟩ 1 1 [.int .i64 (5 * (u : Int)), .int .i64 (999)] rfl rfl (cell_two_new _ _ _ _) (by simp [Value.oneCell']) a1 a2 (Nat.le_trans hsz (below_alloc wr _).size) ?_; intro v6 w6 hownN hgrow _)
          have HW6 : Hid (w6.ownsRow w.heap.size 59 2 v6 (k + 1) (prs (bndTo (bl s) u (k + 1)))) := Lib.hid (by rw [HN.out, HV.out]; exact hownN)
          have HR6 : Hid (w6.ownsRow w.heap.size 3 1 (.slice (some ⟨g, 0, none⟩) ex.length rc) ex.length (ints ex)) := Lib.hid ((HRw.out.alloc _).kept hgrow HAp.out)
          have HB7 : Hid (Below w.heap.size w w6) := Lib.hid ((HB5.out.alloc HB5.out.size _).grown hgrow (Nat.le_trans HB5.out.size (below_alloc wr _).size) (fun q e => (HOl.out q e).1))
          clear hownN hgrow hown a1 a2 hsz ht d1
          go_wp2
          go_roundw
          case rel => exact ⟨k + 1, by go_num, HKl.out.1, HW6.out, HR6, HB7⟩
          case measure => simp [intOf]; omega
    · obtain rfl : k = (rsL (bl s)).length := by omega
      have hcl : (bndL (bl s) u).length = (rsL (bl s)).length := by simp [bndL]
      have k9 : ¬ ((rsL (bl s)).length : Int) < (ex.length : Int) := by rw [HEl.out]; omega
      rw [bndTo_all, ← hcl] at hown
      obtain ⟨a', g', c', hv, hs', hg', ho'⟩ := seq_of_row hown
      injection hv with hv1 hv2 hv3
      subst hv1 hv3
      have HSq := Lib.hid (And.intro hs' (And.intro hg' ho'))
      have HCl := Lib.hid hcl
      clear hs' hg' ho' hown hcl
      go_wp2
      (first | go_ret | go_ret2)
      exact ⟨_, g', _, by rw [HCl.out]; rfl, HSq.out.1, HSq.out.2.1, HSq.out.2.2, HB5.out⟩
theorem boundsOf_both (s : ByteArray) (x : Int) (hs : s.size ≤ 1048576) (wx : (Lit.int .i64 x).wf = true) : ∃ (l : List (Nat × Nat)) (R1 : Bool), l.length ≤ 1000 ∧
    Hid (∀ W, Calls Try.prog 26 #[.string s, .int .i64 x] W (SeqOut (prs l) l.length R1 W)) ∧
    Hid (∀ W, Calls Try.prog 27 #[.string s, .int .i64 x] W (SeqOut (prs l) l.length R1 W)) := by
  cases h : (pieces (bl s)).isSome
  · exact ⟨[], false, by simp, fun W => sBoundsOf_no1 s x W hs h, fun W => boundsOf_no1 s x W hs h⟩
  · by_cases h2 : s.size = 0
    · exact ⟨[], false, by simp, fun W => sBoundsOf_no2 s x W hs h h2, fun W => boundsOf_no2 s x W hs h h2⟩
    · cases h3 : okUnit x
      · exact ⟨[], false, by simp, fun W => sBoundsOf_no3 s x W hs h h2 h3, fun W => boundsOf_no3 s x W hs h h2 h3⟩
      · obtain ⟨ps, hps⟩ := Option.isSome_iff_exists.1 h
        obtain ⟨u, rfl, hu0, hu⟩ := okUnit_nat h3
        exact ⟨bndL (bl s) u, true, by have := rsL_len s (sig_short hps); simp only [bndL, List.length_map]; omega, fun W => sBoundsOf_yes s u W ps hps h2 hu0 hu, fun W => boundsOf_yes s u W ps hps h2 hu0 hu⟩
end Go.Proofs.Ytgfmcpipbmnagaa
