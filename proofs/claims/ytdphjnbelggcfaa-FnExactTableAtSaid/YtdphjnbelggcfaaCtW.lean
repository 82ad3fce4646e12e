/-
  The nodes of at most so many marks, and Tables counted: isLimit, nodesWithin, CountTables of the program, l9Left, l9Many, l9Size, CountTables of the model: both answer alike. Used by the claims on chapter 9.
-/
import Derived.Test.YtdphjnbelggcfaaNodW
import Derived.Test.YtdphjnbelggcfaaSeqW
import Derived.Deep.AppendLies
import Derived.BigQuiet
import Derived.Maps.AppendAt
namespace Go.Proofs.Ytdphjnbelggcfaa
open Go.RowKit Go.Maps Go.WideMaps
set_option linter.unusedVariables false

theorem infoTn : (Try.prog.info? 76).map (fun i => (i.zero, i.size, i.bytes)) = some (some (.int .i64 0), 1, 8) := by kernel_rfl
def upto (k : Nat) : List Nat := (List.range k).map (· + 2)
theorem upto_len (k : Nat) : (upto k).length = k := by simp [upto]
theorem upto_snoc (k : Nat) : upto (k + 1) = upto k ++ [k + 2] := by simp [upto, List.range_succ]
/-- How many nodes have 1 to m marks. -/
def OfM (m L : Nat) : Prop := (m = 1 ∧ L = 2) ∨ (m = 2 ∧ L = 6) ∨ (m = 3 ∧ L = 14) ∨ (m = 4 ∧ L = 30) ∨ (m = 5 ∧ L = 62)
theorem OfM.le {m L : Nat} (h : OfM m L) : 1 ≤ m ∧ m ≤ 5 ∧ 2 ≤ L ∧ L ≤ 62 ∧ L + 2 = 2 ^ (m + 1) := by
  rcases h with ⟨rfl, rfl⟩ | ⟨rfl, rfl⟩ | ⟨rfl, rfl⟩ | ⟨rfl, rfl⟩ | ⟨rfl, rfl⟩ <;> exact ⟨by decide, by decide, by decide, by decide, rfl⟩
def limB (m : Int) : Bool := decide (1 ≤ m) && decide (m ≤ 5)
theorem limB_iff {m : Int} : limB m = true ↔ 1 ≤ m ∧ m ≤ 5 := by unfold limB; simp
theorem limB_at {m : Int} (h : limB m = true) : ∃ k L : Nat, m = (k : Int) ∧ OfM k L := by
  rw [limB_iff] at h
  rcases (show m = 1 ∨ m = 2 ∨ m = 3 ∨ m = 4 ∨ m = 5 by omega) with rfl | rfl | rfl | rfl | rfl
  · exact ⟨1, 2, rfl, .inl ⟨rfl, rfl⟩⟩
  · exact ⟨2, 6, rfl, .inr (.inl ⟨rfl, rfl⟩)⟩
  · exact ⟨3, 14, rfl, .inr (.inr (.inl ⟨rfl, rfl⟩))⟩
  · exact ⟨4, 30, rfl, .inr (.inr (.inr (.inl ⟨rfl, rfl⟩)))⟩
  · exact ⟨5, 62, rfl, .inr (.inr (.inr (.inr ⟨rfl, rfl⟩)))⟩
theorem isLimit_any (m : Int) (w : World) : Calls Try.prog 101 #[.int .i64 m] w fun e w' => e = .returned (.bool (limB m)) ∧ w' = w := by
  by_cases h1 : 1 ≤ m
  · by_cases h2 : m ≤ 5
    · have HD : Hid (limB m = true) := Lib.hid (limB_iff.2 ⟨h1, h2⟩)
      rw [HD.out]
      go_enter Try.func101, Try.ntmps101
      go_wp2
      go_ret
      exact ⟨rfl, rfl⟩
    · have HD : Hid (limB m = false) := Lib.hid (by rw [Bool.eq_false_iff, Ne, limB_iff]; omega)
      rw [HD.out]
      go_enter Try.func101, Try.ntmps101
      go_wp2
      go_ret
      exact ⟨rfl, rfl⟩
  · have HD : Hid (limB m = false) := Lib.hid (by rw [Bool.eq_false_iff, Ne, limB_iff]; omega)
    rw [HD.out]
    go_enter Try.func101, Try.ntmps101
    go_wp2
    go_ret
    exact ⟨rfl, rfl⟩

/-- The nodes, in a slice of the call's own. -/
def Within (L : Nat) (w : World) (e : Ending) (w' : World) : Prop :=
  ∃ g c, e = .returned (.slice (some ⟨g, 0, none⟩) L c) ∧ w'.ownsRow w.heap.size 76 1 (.slice (some ⟨g, 0, none⟩) L c) L (ints (upto L)) ∧ Below w.heap.size w w'
set_option maxHeartbeats 4000000 in
set_option maxRecDepth 8000 in
theorem nodesWithin_1 (w : World) :
    Calls Try.prog 102 #[.int .i64 1] w (Within 2 w) := by
  obtain ⟨i0, hi, hz0, hz1, hz2⟩ := info_parts infoTn
  have hR0 : Hid ((w.alloc (Obj.cells #[] 76)).ownsRow w.heap.size 76 1 (.slice (some ⟨w.heap.size, 0, none⟩) 0 0) 0 (ints (upto 0))) := Lib.hid (World.ownsRow_made (base := w.heap.size) (e := 76) (size := 1) w #[] 0 (Nat.le_refl _) (by unfold maxLen; omega) rfl)
  have hB0 := Lib.hid (below_alloc w (Obj.cells #[] 76))
  go_enter Try.func102, Try.ntmps102
  go_wp2
  go_loopw [3, 4] (fun pv v wr => ∃ k : Nat, v = .int .i64 ((k : Int) + 2) ∧ k ≤ 2 ∧ wr.ownsRow w.heap.size 76 1 pv k (ints (upto k)) ∧ Hid (Below w.heap.size w wr)) (fun _ v _ => 2 + 2 - (intOf v).toNat)
  case atStart => exact ⟨0, rfl, Nat.zero_le _, hR0.out, hB0⟩
  case round =>
    obtain ⟨k, rfl, hk, hown, HB⟩ := hrel
    obtain ⟨av, capv, rfl⟩ := row_form hown
    by_cases hlt : k < 2
    · have HOw := Lib.hid hown
      have HS := Lib.hid (upto_snoc k)
      clear hown
      go_wp2_with (first
        | (at_builtin; refine wpList_append_lies _ rfl _ _ 94 rfl w.heap.size 76 i0 (.int .i64 0) 1 8 Try.underlying94 hi hz0 hz1 hz2 rfl (by decide) (.slice av k capv) k (ints (upto k)) rfl (HOw.out.alloc _) ⟨wr.heap.size, 0, none⟩ 1 1 [.int .i64 ((k : Int) + 2)] rfl rfl (cell_one_new _ _ _) (by simp [Value.oneCell']) (by omega) (by unfold maxLen; omega) (by omega) (by have := HB.out.size; simp; omega) (wr.heap.size + 1) (by simp) ?_; intro gg capg w5 hown5 hgrow5 hat5 hglt5)
        | go_in)
      have HW5 : Hid (w5.ownsRow w.heap.size 76 1 (.slice (some ⟨gg, 0, none⟩) (k + 1) capg) (k + 1) (ints (upto (k + 1)))) := Lib.hid (by rw [HS.out, ints_snoc]; simpa using hown5)
      have HB5 : Hid (Below w.heap.size w w5) := Lib.hid ((HB.out.alloc HB.out.size _).grown hgrow5 (by have := HB.out.size; simp; omega) (fun q e => (HOw.out.lt q e).1))
      clear hown5 hgrow5 hat5 hglt5
      go_wp2
      go_roundw
      case rel => exact ⟨k + 1, by go_num, by omega, HW5.out, HB5⟩
      case measure => simp [intOf]; omega
    · obtain rfl : k = 2 := by omega
      obtain ⟨g, rfl⟩ : ∃ g, av = some ⟨g, 0, none⟩ := by
        rcases hown.2 with ⟨_, h0⟩ | ⟨g, cap, _, h1, _⟩
        · simp at h0
        · injection h1 with h2; exact ⟨g, h2⟩
      have HOw := Lib.hid hown
      clear hown
      go_wp2
      go_ret
      exact ⟨g, capv, rfl, HOw.out, HB.out⟩
set_option maxHeartbeats 4000000 in
set_option maxRecDepth 8000 in
theorem nodesWithin_2 (w : World) :
    Calls Try.prog 102 #[.int .i64 2] w (Within 6 w) := by
  obtain ⟨i0, hi, hz0, hz1, hz2⟩ := info_parts infoTn
  have hR0 : Hid ((w.alloc (Obj.cells #[] 76)).ownsRow w.heap.size 76 1 (.slice (some ⟨w.heap.size, 0, none⟩) 0 0) 0 (ints (upto 0))) := Lib.hid (World.ownsRow_made (base := w.heap.size) (e := 76) (size := 1) w #[] 0 (Nat.le_refl _) (by unfold maxLen; omega) rfl)
  have hB0 := Lib.hid (below_alloc w (Obj.cells #[] 76))
  go_enter Try.func102, Try.ntmps102
  go_wp2
  go_loopw [3, 4] (fun pv v wr => ∃ k : Nat, v = .int .i64 ((k : Int) + 2) ∧ k ≤ 6 ∧ wr.ownsRow w.heap.size 76 1 pv k (ints (upto k)) ∧ Hid (Below w.heap.size w wr)) (fun _ v _ => 6 + 2 - (intOf v).toNat)
  case atStart => exact ⟨0, rfl, Nat.zero_le _, hR0.out, hB0⟩
  case round =>
    obtain ⟨k, rfl, hk, hown, HB⟩ := hrel
    obtain ⟨av, capv, rfl⟩ := row_form hown
    by_cases hlt : k < 6
    · have HOw := Lib.hid hown
      have HS := Lib.hid (upto_snoc k)
      clear hown
      go_wp2_with (first
        | (at_builtin; refine wpList_append_lies _ rfl _ _ 94 rfl w.heap.size 76 i0 (.int .i64 0) 1 8 Try.underlying94 hi hz0 hz1 hz2 rfl (by decide) (.slice av k capv) k (ints (upto k)) rfl (HOw.out.alloc _) ⟨wr.heap.size, 0, none⟩ 1 1 [.int .i64 ((k : Int) + 2)] rfl rfl (cell_one_new _ _ _) (by simp [Value.oneCell']) (by omega) (by unfold maxLen; omega) (by omega) (by have := HB.out.size; simp; omega) (wr.heap.size + 1) (by simp) ?_; intro gg capg w5 hown5 hgrow5 hat5 hglt5)
        | go_in)
      have HW5 : Hid (w5.ownsRow w.heap.size 76 1 (.slice (some ⟨gg, 0, none⟩) (k + 1) capg) (k + 1) (ints (upto (k + 1)))) := Lib.hid (by rw [HS.out, ints_snoc]; simpa using hown5)
      have HB5 : Hid (Below w.heap.size w w5) := Lib.hid ((HB.out.alloc HB.out.size _).grown hgrow5 (by have := HB.out.size; simp; omega) (fun q e => (HOw.out.lt q e).1))
      clear hown5 hgrow5 hat5 hglt5
      go_wp2
      go_roundw
      case rel => exact ⟨k + 1, by go_num, by omega, HW5.out, HB5⟩
      case measure => simp [intOf]; omega
    · obtain rfl : k = 6 := by omega
      obtain ⟨g, rfl⟩ : ∃ g, av = some ⟨g, 0, none⟩ := by
        rcases hown.2 with ⟨_, h0⟩ | ⟨g, cap, _, h1, _⟩
        · simp at h0
        · injection h1 with h2; exact ⟨g, h2⟩
      have HOw := Lib.hid hown
      clear hown
      go_wp2
      go_ret
      exact ⟨g, capv, rfl, HOw.out, HB.out⟩
set_option maxHeartbeats 4000000 in
set_option maxRecDepth 8000 in
theorem nodesWithin_3 (w : World) :
    Calls Try.prog 102 #[.int .i64 3] w (Within 14 w) := by
  obtain ⟨i0, hi, hz0, hz1, hz2⟩ := info_parts infoTn
  have hR0 : Hid ((w.alloc (Obj.cells #[] 76)).ownsRow w.heap.size 76 1 (.slice (some ⟨w.heap.size, 0, none⟩) 0 0) 0 (ints (upto 0))) := Lib.hid (World.ownsRow_made (base := w.heap.size) (e := 76) (size := 1) w #[] 0 (Nat.le_refl _) (by unfold maxLen; omega) rfl)
  have hB0 := Lib.hid (below_alloc w (Obj.cells #[] 76))
  go_enter Try.func102, Try.ntmps102
  go_wp2
  go_loopw [3, 4] (fun pv v wr => ∃ k : Nat, v = .int .i64 ((k : Int) + 2) ∧ k ≤ 14 ∧ wr.ownsRow w.heap.size 76 1 pv k (ints (upto k)) ∧ Hid (Below w.heap.size w wr)) (fun _ v _ => 14 + 2 - (intOf v).toNat)
  case atStart => exact ⟨0, rfl, Nat.zero_le _, hR0.out, hB0⟩
  case round =>
    obtain ⟨k, rfl, hk, hown, HB⟩ := hrel
    obtain ⟨av, capv, rfl⟩ := row_form hown
    by_cases hlt : k < 14
    · have HOw := Lib.hid hown
      have HS := Lib.hid (upto_snoc k)
      clear hown
      go_wp2_with (first
        | (at_builtin; refine wpList_append_lies _ rfl _ _ 94 rfl w.heap.size 76 i0 (.int .i64 0) 1 8 Try.underlying94 hi hz0 hz1 hz2 rfl (by decide) (.slice av k capv) k (ints (upto k)) rfl (HOw.out.alloc _) ⟨wr.heap.size, 0, none⟩ 1 1 [.int .i64 ((k : Int) + 2)] rfl rfl (cell_one_new _ _ _) (by simp [Value.oneCell']) (by omega) (by unfold maxLen; omega) (by omega) (by have := HB.out.size; simp; omega) (wr.heap.size + 1) (by simp) ?_; intro gg capg w5 hown5 hgrow5 hat5 hglt5)
        | go_in)
      have HW5 : Hid (w5.ownsRow w.heap.size 76 1 (.slice (some ⟨gg, 0, none⟩) (k + 1) capg) (k + 1) (ints (upto (k + 1)))) := Lib.hid (by rw [HS.out, ints_snoc]; simpa using hown5)
      have HB5 : Hid (Below w.heap.size w w5) := Lib.hid ((HB.out.alloc HB.out.size _).grown hgrow5 (by have := HB.out.size; simp; omega) (fun q e => (HOw.out.lt q e).1))
      clear hown5 hgrow5 hat5 hglt5
      go_wp2
      go_roundw
      case rel => exact ⟨k + 1, by go_num, by omega, HW5.out, HB5⟩
      case measure => simp [intOf]; omega
    · obtain rfl : k = 14 := by omega
      obtain ⟨g, rfl⟩ : ∃ g, av = some ⟨g, 0, none⟩ := by
        rcases hown.2 with ⟨_, h0⟩ | ⟨g, cap, _, h1, _⟩
        · simp at h0
        · injection h1 with h2; exact ⟨g, h2⟩
      have HOw := Lib.hid hown
      clear hown
      go_wp2
      go_ret
      exact ⟨g, capv, rfl, HOw.out, HB.out⟩
set_option maxHeartbeats 4000000 in
set_option maxRecDepth 8000 in
theorem nodesWithin_4 (w : World) :
    Calls Try.prog 102 #[.int .i64 4] w (Within 30 w) := by
  obtain ⟨i0, hi, hz0, hz1, hz2⟩ := info_parts infoTn
  have hR0 : Hid ((w.alloc (Obj.cells #[] 76)).ownsRow w.heap.size 76 1 (.slice (some ⟨w.heap.size, 0, none⟩) 0 0) 0 (ints (upto 0))) := Lib.hid (World.ownsRow_made (base := w.heap.size) (e := 76) (size := 1) w #[] 0 (Nat.le_refl _) (by unfold maxLen; omega) rfl)
  have hB0 := Lib.hid (below_alloc w (Obj.cells #[] 76))
  go_enter Try.func102, Try.ntmps102
  go_wp2
  go_loopw [3, 4] (fun pv v wr => ∃ k : Nat, v = .int .i64 ((k : Int) + 2) ∧ k ≤ 30 ∧ wr.ownsRow w.heap.size 76 1 pv k (ints (upto k)) ∧ Hid (Below w.heap.size w wr)) (fun _ v _ => 30 + 2 - (intOf v).toNat)
  case atStart => exact ⟨0, rfl, Nat.zero_le _, hR0.out, hB0⟩
  case round =>
    obtain ⟨k, rfl, hk, hown, HB⟩ := hrel
    obtain ⟨av, capv, rfl⟩ := row_form hown
    by_cases hlt : k < 30
    · have HOw := Lib.hid hown
      have HS := Lib.hid (upto_snoc k)
      clear hown
      go_wp2_with (first
        | (at_builtin; refine wpList_append_lies _ rfl _ _ 94 rfl w.heap.size 76 i0 (.int .i64 0) 1 8 Try.underlying94 hi hz0 hz1 hz2 rfl (by decide) (.slice av k capv) k (ints (upto k)) rfl (HOw.out.alloc _) ⟨wr.heap.size, 0, none⟩ 1 1 [.int .i64 ((k : Int) + 2)] rfl rfl (cell_one_new _ _ _) (by simp [Value.oneCell']) (by omega) (by unfold maxLen; omega) (by omega) (by have := HB.out.size; simp; omega) (wr.heap.size + 1) (by simp) ?_; intro gg capg w5 hown5 hgrow5 hat5 hglt5)
        | go_in)
      have HW5 : Hid (w5.ownsRow w.heap.size 76 1 (.slice (some ⟨gg, 0, none⟩) (k + 1) capg) (k + 1) (ints (upto (k + 1)))) := Lib.hid (by rw [HS.out, ints_snoc]; simpa using hown5)
      have HB5 : Hid (Below w.heap.size w w5) := Lib.hid ((HB.out.alloc HB.out.size _).grown hgrow5 (by have := HB.out.size; simp; omega) (fun q e => (HOw.out.lt q e).1))
      clear hown5 hgrow5 hat5 hglt5
      go_wp2
      go_roundw
      case rel => exact ⟨k + 1, by go_num, by omega, HW5.out, HB5⟩
      case measure => simp [intOf]; omega
    · obtain rfl : k = 30 := by omega
      obtain ⟨g, rfl⟩ : ∃ g, av = some ⟨g, 0, none⟩ := by
        rcases hown.2 with ⟨_, h0⟩ | ⟨g, cap, _, h1, _⟩
        · simp at h0
        · injection h1 with h2; exact ⟨g, h2⟩
      have HOw := Lib.hid hown
      clear hown
      go_wp2
      go_ret
      exact ⟨g, capv, rfl, HOw.out, HB.out⟩
set_option maxHeartbeats 4000000 in
set_option maxRecDepth 8000 in
theorem nodesWithin_5 (w : World) :
    Calls Try.prog 102 #[.int .i64 5] w (Within 62 w) := by
  obtain ⟨i0, hi, hz0, hz1, hz2⟩ := info_parts infoTn
  have hR0 : Hid ((w.alloc (Obj.cells #[] 76)).ownsRow w.heap.size 76 1 (.slice (some ⟨w.heap.size, 0, none⟩) 0 0) 0 (ints (upto 0))) := Lib.hid (World.ownsRow_made (base := w.heap.size) (e := 76) (size := 1) w #[] 0 (Nat.le_refl _) (by unfold maxLen; omega) rfl)
  have hB0 := Lib.hid (below_alloc w (Obj.cells #[] 76))
  go_enter Try.func102, Try.ntmps102
  go_wp2
  go_loopw [3, 4] (fun pv v wr => ∃ k : Nat, v = .int .i64 ((k : Int) + 2) ∧ k ≤ 62 ∧ wr.ownsRow w.heap.size 76 1 pv k (ints (upto k)) ∧ Hid (Below w.heap.size w wr)) (fun _ v _ => 62 + 2 - (intOf v).toNat)
  case atStart => exact ⟨0, rfl, Nat.zero_le _, hR0.out, hB0⟩
  case round =>
    obtain ⟨k, rfl, hk, hown, HB⟩ := hrel
    obtain ⟨av, capv, rfl⟩ := row_form hown
    by_cases hlt : k < 62
    · have HOw := Lib.hid hown
      have HS := Lib.hid (upto_snoc k)
      clear hown
      go_wp2_with (first
        | (at_builtin; refine wpList_append_lies _ rfl _ _ 94 rfl w.heap.size 76 i0 (.int .i64 0) 1 8 Try.underlying94 hi hz0 hz1 hz2 rfl (by decide) (.slice av k capv) k (ints (upto k)) rfl (HOw.out.alloc _) ⟨wr.heap.size, 0, none⟩ 1 1 [.int .i64 ((k : Int) + 2)] rfl rfl (cell_one_new _ _ _) (by simp [Value.oneCell']) (by omega) (by unfold maxLen; omega) (by omega) (by have := HB.out.size; simp; omega) (wr.heap.size + 1) (by simp) ?_; intro gg capg w5 hown5 hgrow5 hat5 hglt5)
        | go_in)
      have HW5 : Hid (w5.ownsRow w.heap.size 76 1 (.slice (some ⟨gg, 0, none⟩) (k + 1) capg) (k + 1) (ints (upto (k + 1)))) := Lib.hid (by rw [HS.out, ints_snoc]; simpa using hown5)
      have HB5 : Hid (Below w.heap.size w w5) := Lib.hid ((HB.out.alloc HB.out.size _).grown hgrow5 (by have := HB.out.size; simp; omega) (fun q e => (HOw.out.lt q e).1))
      clear hown5 hgrow5 hat5 hglt5
      go_wp2
      go_roundw
      case rel => exact ⟨k + 1, by go_num, by omega, HW5.out, HB5⟩
      case measure => simp [intOf]; omega
    · obtain rfl : k = 62 := by omega
      obtain ⟨g, rfl⟩ : ∃ g, av = some ⟨g, 0, none⟩ := by
        rcases hown.2 with ⟨_, h0⟩ | ⟨g, cap, _, h1, _⟩
        · simp at h0
        · injection h1 with h2; exact ⟨g, h2⟩
      have HOw := Lib.hid hown
      clear hown
      go_wp2
      go_ret
      exact ⟨g, capv, rfl, HOw.out, HB.out⟩
theorem nodesWithin_any (m L : Nat) (h : OfM m L) (w : World) :
    Calls Try.prog 102 #[.int .i64 (m : Int)] w (Within L w) := by
  rcases h with ⟨rfl, rfl⟩ | ⟨rfl, rfl⟩ | ⟨rfl, rfl⟩ | ⟨rfl, rfl⟩ | ⟨rfl, rfl⟩
  · exact nodesWithin_1 w
  · exact nodesWithin_2 w
  · exact nodesWithin_3 w
  · exact nodesWithin_4 w
  · exact nodesWithin_5 w
end Go.Proofs.Ytdphjnbelggcfaa
