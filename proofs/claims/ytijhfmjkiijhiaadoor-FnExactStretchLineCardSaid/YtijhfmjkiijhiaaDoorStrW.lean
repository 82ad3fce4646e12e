/-
  StretchLine, the program's and the model's: both answer alike. Used by the claims on chapter 4.
-/
import Derived.Test.YtijhfmjkiijhiaaDoorLongW
namespace Go.Proofs.YtijhfmjkiijhiaaDoor
open Go.RowKit
set_option linter.unusedVariables false

theorem cat_str (l : Bs) (c : UInt8) (k : Nat) : ((⟨l.toArray⟩ : ByteArray) ++ ⟨(reps k c).toArray⟩) = ⟨(l ++ List.replicate k c).toArray⟩ := catB _ _
theorem mul_bd {n k : Nat} (h1 : n ≤ 200) (h2 : k ≤ 9) : n * k ≤ 1800 := Nat.mul_le_mul h1 h2
theorem stretch_no0 (s : ByteArray) (k : Int) (w : World) (hs : s.size ≤ 1048576) (wk : (Lit.int .i64 k).wf = true) (h1 : lineL (bl s) = false) : 
    Calls Tryd.prog 36 #[.string s, .int .i64 k] w fun e w' => e = .returned (.tuple #[.string ByteArray.empty, .bool false]) ∧ Below w.heap.size w w' := by
    have HA := isLine_is s false hs h1
    clear h1
    go_enter Tryd.func36, Tryd.ntmps36
    go_wp2_with fail
    refine (HA.out _).mono ?_
    rintro e w1 ⟨rfl, hb1⟩
    have HB := Lib.hid hb1
    clear hb1
    go_wp2
    (first | go_ret | go_ret2)
    exact ⟨rfl, HB.out⟩
theorem stretch_no1 (s : ByteArray) (k : Int) (w : World) (hs : s.size ≤ 1048576) (wk : (Lit.int .i64 k).wf = true) (h1 : lineL (bl s) = true) (hk : k < 1 ∨ 9 < k) : 
    Calls Tryd.prog 36 #[.string s, .int .i64 k] w fun e w' => e = .returned (.tuple #[.string ByteArray.empty, .bool false]) ∧ Below w.heap.size w w' := by
    have HA := isLine_is s true hs h1
    clear h1
    rcases hk with hk | hk
    · go_enter Tryd.func36, Tryd.ntmps36
      go_wp2_with fail
      refine (HA.out _).mono ?_
      rintro e w1 ⟨rfl, hb1⟩
      have HB := Lib.hid hb1
      clear hb1
      go_wp2
      (first | go_ret | go_ret2)
      exact ⟨rfl, HB.out⟩
    · have hk1 : ¬ k < 1 := by omega
      go_enter Tryd.func36, Tryd.ntmps36
      go_wp2_with fail
      refine (HA.out _).mono ?_
      rintro e w1 ⟨rfl, hb1⟩
      have HB := Lib.hid hb1
      clear hb1
      go_wp2
      (first | go_ret | go_ret2)
      exact ⟨rfl, HB.out⟩
set_option maxHeartbeats 1000000 in
theorem stretch_no2 (s : ByteArray) (k : Nat) (w : World) (hs : s.size ≤ 1048576) (h1 : lineL (bl s) = true) (hk1 : 1 ≤ k) (hk2 : k ≤ 9) (h3 : 200 < s.size * k) : 
    Calls Tryd.prog 36 #[.string s, .int .i64 k] w fun e w' => e = .returned (.tuple #[.string ByteArray.empty, .bool false]) ∧ Below w.heap.size w w' := by
    have la : s.size ≤ 200 := by have := line_len h1; rwa [bl_len] at this
    have HA := isLine_is s true hs h1
    obtain ⟨m, hm⟩ : ∃ m, s.size * k = m := ⟨_, rfl⟩
    have hmb : m ≤ 1800 := by rw [← hm]; exact mul_bd la hk2
    have hmul : ((s.size : Int) * (k : Int)) = (m : Int) := by rw [← hm]; exact (Int.natCast_mul _ _).symm
    have q1 : wrap64 ((s.size : Int) * (k : Int)) = (m : Int) := by rw [hmul]; exact IntWalk.wrap64_in _ (by omega)
    have q2 : IntKind.i64.wrap ((s.size : Int) * (k : Int)) = (m : Int) := by rw [hmul]; exact IntWalk.i64_in _ (by omega)
    rw [hm] at h3
    have HMm := Lib.hid hm
    have k1 : ¬ (k : Int) < 1 := by omega
    have k2 : ¬ (9 : Int) < (k : Int) := by omega
    have h4 : (200 : Int) < (m : Int) := by omega
    clear h1 hm hmul h3
    go_enter Tryd.func36, Tryd.ntmps36
    go_wp2_with fail
    refine (HA.out _).mono ?_
    rintro e w1 ⟨rfl, hb1⟩
    have HB := Lib.hid hb1
    clear hb1
    go_wp2
    (first | go_ret | go_ret2)
    exact ⟨rfl, HB.out⟩
set_option maxHeartbeats 1000000 in
theorem stretch_yes (s : ByteArray) (k : Nat) (w : World) (hs : s.size ≤ 1048576) (h1 : lineL (bl s) = true) (hk1 : 1 ≤ k) (hk2 : k ≤ 9) (h3 : s.size * k ≤ 200) : 
    Calls Tryd.prog 36 #[.string s, .int .i64 k] w fun e w' => e = .returned (.tuple #[.string ⟨(strTo (bl s) k s.size).toArray⟩, .bool true]) ∧ Below w.heap.size w w' := by
    have la : s.size ≤ 200 := by have := line_len h1; rwa [bl_len] at this
    have HA := isLine_is s true hs h1
    obtain ⟨m, hm⟩ : ∃ m, s.size * k = m := ⟨_, rfl⟩
    have hmb : m ≤ 1800 := by rw [← hm]; exact mul_bd la hk2
    have hmul : ((s.size : Int) * (k : Int)) = (m : Int) := by rw [← hm]; exact (Int.natCast_mul _ _).symm
    have q1 : wrap64 ((s.size : Int) * (k : Int)) = (m : Int) := by rw [hmul]; exact IntWalk.wrap64_in _ (by omega)
    have q2 : IntKind.i64.wrap ((s.size : Int) * (k : Int)) = (m : Int) := by rw [hmul]; exact IntWalk.i64_in _ (by omega)
    rw [hm] at h3
    have HMm := Lib.hid hm
    have k1 : ¬ (k : Int) < 1 := by omega
    have k2 : ¬ (9 : Int) < (k : Int) := by omega
    have h4 : ¬ (200 : Int) < (m : Int) := by omega
    clear h1 hm hmul h3
    go_enter Tryd.func36, Tryd.ntmps36
    go_wp2_with fail
    refine (HA.out _).mono ?_
    rintro e w1 ⟨rfl, hb1⟩
    have HB := Lib.hid hb1
    clear hb1
    go_wp2
    clear q1 q2 h4 HMm hmb
    go_loopw [6, 28] (fun sv v wr => ∃ (j : Nat) (l : Bs), v = .int .i64 j ∧ j ≤ s.size ∧ sv = .string ⟨l.toArray⟩ ∧ l.length ≤ 9 * j ∧ Hid (l = strTo (bl s) k j) ∧ Hid (Below w.heap.size w wr)) (fun _ v _ => s.size - (intOf v).toNat)
    case atStart => exact ⟨0, [], rfl, Nat.zero_le _, rfl, Nat.zero_le _, Lib.hid rfl, HB⟩
    case round =>
      obtain ⟨j, l, rfl, hj, rfl, hl, HL, HBw⟩ := hrel
      by_cases hlt : j < s.size
      · have HE := Lib.hid (ext_one s j hlt)
        have HBy := Lib.hid (bl_at s j hlt)
        have HN : Hid (l ++ List.replicate k s[j] = strTo (bl s) k (j + 1)) := Lib.hid (by rw [strTo, ← HL.out, List.getD_eq_getElem?_getD, HBy.out]; rfl)
        obtain ⟨c, hc⟩ : ∃ c, s[j] = c := ⟨_, rfl⟩
        rw [hc] at HE HN
        have HR := Lib.hid fun w => repeat_any (s.extract j (j + 1)) c k w HE.out (by omega)
        have HCt := Lib.hid (cat_str l c k)
        have HLl : Hid ((l ++ List.replicate k c).length ≤ 9 * (j + 1)) := Lib.hid (by simp; omega)
        have HSz : Hid ((⟨(reps k c).toArray⟩ : ByteArray).size = k) := Lib.hid (by simp [ByteArray.size, reps])
        have hsz : (⟨(reps k c).toArray⟩ : ByteArray).size ≤ 9 := by rw [HSz.out]; omega
        generalize hT : (⟨(reps k c).toArray⟩ : ByteArray) = T at HR HCt hsz
        have p1 : ¬ 9223372036854775807 < l.length + T.size := by omega
        have j0 : (0 : Int) ≤ (j : Int) := by omega
        clear hc hT HSz HE HBy
        go_wp2_with fail
        refine (HR.out _).mono ?_
        rintro e w3 ⟨rfl, hb3⟩
        have HB3 := Lib.hid (HBw.out.trans (hb3.mono HBw.out.size))
        clear hb3
        go_wp2
        go_roundw
        case rel => exact ⟨j + 1, l ++ List.replicate k c, by go_num, by omega, by rw [HCt.out], HLl.out, HN, HB3⟩
        case measure => simp [intOf]; omega
      · have HE : Hid (strTo (bl s) k s.size = l) := Lib.hid (by rw [HL.out]; congr 1; omega)
        clear hl
        go_wp2
        (first | go_ret | go_ret2)
        exact ⟨by first | (rw [HE.out]; rfl) | rw [HE.out], HBw.out⟩
theorem sStretch_no0 (s : ByteArray) (k : Int) (w : World) (hs : s.size ≤ 1048576) (wk : (Lit.int .i64 k).wf = true) (h1 : lineL (bl s) = false) : 
    Calls Tryd.prog 35 #[.string s, .int .i64 k] w fun e w' => e = .returned (.tuple #[.string ByteArray.empty, .bool false]) ∧ Below w.heap.size w w' := by
    have HA := sLine_is s false hs h1
    clear h1
    go_enter Tryd.func35, Tryd.ntmps35
    go_wp2_with fail
    refine (HA.out _).mono ?_
    rintro e w1 ⟨rfl, hb1⟩
    have HB := Lib.hid hb1
    clear hb1
    go_wp2
    (first | go_ret | go_ret2)
    exact ⟨rfl, HB.out⟩
theorem sStretch_no1 (s : ByteArray) (k : Int) (w : World) (hs : s.size ≤ 1048576) (wk : (Lit.int .i64 k).wf = true) (h1 : lineL (bl s) = true) (hk : k < 1 ∨ 9 < k) : 
    Calls Tryd.prog 35 #[.string s, .int .i64 k] w fun e w' => e = .returned (.tuple #[.string ByteArray.empty, .bool false]) ∧ Below w.heap.size w w' := by
    have HA := sLine_is s true hs h1
    clear h1
    have HI : Hid (∀ w, Calls Tryd.prog 62 #[.int .i64 k, .int .i64 1, .int .i64 9] w fun e w' => e = .returned (.bool false) ∧ w' = w) := Lib.hid fun w => (in_any k 1 9 w).mono fun e w' ⟨h3, h4⟩ => ⟨by
      rw [h3]
      rcases hk with hk | hk
      · have e2 : decide ((1 : Int) ≤ k) = false := decide_eq_false (by omega)
        rw [e2, Bool.false_and]
      · have e2 : decide (k ≤ (9 : Int)) = false := decide_eq_false (by omega)
        rw [e2, Bool.and_false], h4⟩
    clear hk
    go_enter Tryd.func35, Tryd.ntmps35
    go_wp2_with fail
    refine (HA.out _).mono ?_
    rintro e w1 ⟨rfl, hb1⟩
    have HB := Lib.hid hb1
    clear hb1
    go_wp2_with fail
    refine (HI.out _).mono ?_
    rintro e w2 ⟨rfl, rfl⟩
    go_wp2
    (first | go_ret | go_ret2)
    exact ⟨rfl, HB.out⟩
set_option maxHeartbeats 1000000 in
theorem sStretch_no2 (s : ByteArray) (k : Nat) (w : World) (hs : s.size ≤ 1048576) (h1 : lineL (bl s) = true) (hk1 : 1 ≤ k) (hk2 : k ≤ 9) (h3 : 200 < s.size * k) : 
    Calls Tryd.prog 35 #[.string s, .int .i64 k] w fun e w' => e = .returned (.tuple #[.string ByteArray.empty, .bool false]) ∧ Below w.heap.size w w' := by
    have la : s.size ≤ 200 := by have := line_len h1; rwa [bl_len] at this
    have HA := sLine_is s true hs h1
    obtain ⟨m, hm⟩ : ∃ m, s.size * k = m := ⟨_, rfl⟩
    have hmb : m ≤ 1800 := by rw [← hm]; exact mul_bd la hk2
    have hmul : ((s.size : Int) * (k : Int)) = (m : Int) := by rw [← hm]; exact (Int.natCast_mul _ _).symm
    have q1 : wrap64 ((s.size : Int) * (k : Int)) = (m : Int) := by rw [hmul]; exact IntWalk.wrap64_in _ (by omega)
    have q2 : IntKind.i64.wrap ((s.size : Int) * (k : Int)) = (m : Int) := by rw [hmul]; exact IntWalk.i64_in _ (by omega)
    rw [hm] at h3
    have HMm := Lib.hid hm
    have HI : Hid (∀ w, Calls Tryd.prog 62 #[.int .i64 k, .int .i64 1, .int .i64 9] w fun e w' => e = .returned (.bool true) ∧ w' = w) := Lib.hid fun w => (in_any (k : Int) 1 9 w).mono fun e w' ⟨h4, h5⟩ => ⟨by
      rw [h4]
      have e1 : decide ((1 : Int) ≤ (k : Int)) = true := decide_eq_true (by omega)
      have e2 : decide ((k : Int) ≤ 9) = true := decide_eq_true (by omega)
      rw [e1, e2]; rfl, h5⟩
    have h4 : (200 : Int) < (m : Int) := by omega
    clear h1 hm hmul h3
    go_enter Tryd.func35, Tryd.ntmps35
    go_wp2_with fail
    refine (HA.out _).mono ?_
    rintro e w1 ⟨rfl, hb1⟩
    have HB := Lib.hid hb1
    clear hb1
    go_wp2_with fail
    refine (HI.out _).mono ?_
    rintro e w2 ⟨rfl, rfl⟩
    go_wp2
    (first | go_ret | go_ret2)
    exact ⟨rfl, HB.out⟩
set_option maxHeartbeats 1000000 in
theorem sStretch_yes (s : ByteArray) (k : Nat) (w : World) (hs : s.size ≤ 1048576) (h1 : lineL (bl s) = true) (hk1 : 1 ≤ k) (hk2 : k ≤ 9) (h3 : s.size * k ≤ 200) : 
    Calls Tryd.prog 35 #[.string s, .int .i64 k] w fun e w' => e = .returned (.tuple #[.string ⟨(strTo (bl s) k s.size).toArray⟩, .bool true]) ∧ Below w.heap.size w w' := by
    have la : s.size ≤ 200 := by have := line_len h1; rwa [bl_len] at this
    have HA := sLine_is s true hs h1
    obtain ⟨m, hm⟩ : ∃ m, s.size * k = m := ⟨_, rfl⟩
    have hmb : m ≤ 1800 := by rw [← hm]; exact mul_bd la hk2
    have hmul : ((s.size : Int) * (k : Int)) = (m : Int) := by rw [← hm]; exact (Int.natCast_mul _ _).symm
    have q1 : wrap64 ((s.size : Int) * (k : Int)) = (m : Int) := by rw [hmul]; exact IntWalk.wrap64_in _ (by omega)
    have q2 : IntKind.i64.wrap ((s.size : Int) * (k : Int)) = (m : Int) := by rw [hmul]; exact IntWalk.i64_in _ (by omega)
    rw [hm] at h3
    have HMm := Lib.hid hm
    have HI : Hid (∀ w, Calls Tryd.prog 62 #[.int .i64 k, .int .i64 1, .int .i64 9] w fun e w' => e = .returned (.bool true) ∧ w' = w) := Lib.hid fun w => (in_any (k : Int) 1 9 w).mono fun e w' ⟨h4, h5⟩ => ⟨by
      rw [h4]
      have e1 : decide ((1 : Int) ≤ (k : Int)) = true := decide_eq_true (by omega)
      have e2 : decide ((k : Int) ≤ 9) = true := decide_eq_true (by omega)
      rw [e1, e2]; rfl, h5⟩
    have h4 : ¬ (200 : Int) < (m : Int) := by omega
    clear h1 hm hmul h3
    go_enter Tryd.func35, Tryd.ntmps35
    go_wp2_with fail
    refine (HA.out _).mono ?_
    rintro e w1 ⟨rfl, hb1⟩
    have HB := Lib.hid hb1
    clear hb1
    go_wp2_with fail
    refine (HI.out _).mono ?_
    rintro e w2 ⟨rfl, rfl⟩
    go_wp2
    clear q1 q2 h4 HMm hmb
    go_loop [6, 7] (fun sv v => ∃ (j : Nat) (l : Bs), v = .int .i64 j ∧ j ≤ s.size ∧ sv = .string ⟨l.toArray⟩ ∧ l.length ≤ 9 * j ∧ Hid (l = strTo (bl s) k j)) (fun _ v => s.size - (intOf v).toNat)
    case atStart => exact ⟨0, [], rfl, Nat.zero_le _, rfl, Nat.zero_le _, Lib.hid rfl⟩
    case round =>
      obtain ⟨j, l, rfl, hj, rfl, hl, HL⟩ := hrel
      by_cases hlt : j < s.size
      · have HE := Lib.hid (ext_one s j hlt)
        have HBy := Lib.hid (bl_at s j hlt)
        have HN : Hid (l ++ List.replicate k s[j] = strTo (bl s) k (j + 1)) := Lib.hid (by rw [strTo, ← HL.out, List.getD_eq_getElem?_getD, HBy.out]; rfl)
        obtain ⟨c, hc⟩ : ∃ c, s[j] = c := ⟨_, rfl⟩
        rw [hc] at HE HN
        have HR := Lib.hid fun w => (show Calls Tryd.prog 63 #[.string (s.extract j (j + 1)), .int .i64 k] w fun e w' => e = .returned (.string ⟨(reps k c).toArray⟩) ∧ w' = w by
          have := sMany_any (s.extract j (j + 1)) c (k : Int) w HE.out (by omega)
          rwa [Int.toNat_natCast] at this)
        have HCt := Lib.hid (cat_str l c k)
        have HLl : Hid ((l ++ List.replicate k c).length ≤ 9 * (j + 1)) := Lib.hid (by simp; omega)
        have HSz : Hid ((⟨(reps k c).toArray⟩ : ByteArray).size = k) := Lib.hid (by simp [ByteArray.size, reps])
        have hsz : (⟨(reps k c).toArray⟩ : ByteArray).size ≤ 9 := by rw [HSz.out]; omega
        generalize hT : (⟨(reps k c).toArray⟩ : ByteArray) = T at HR HCt hsz
        have p1 : ¬ 9223372036854775807 < l.length + T.size := by omega
        have j0 : (0 : Int) ≤ (j : Int) := by omega
        clear hc hT HSz HE HBy
        go_wp2_with fail
        refine (HR.out _).mono ?_
        rintro e w3 ⟨rfl, rfl⟩
        go_wp2
        go_round
        case rel => exact ⟨j + 1, l ++ List.replicate k c, by go_num, by omega, by rw [HCt.out], HLl.out, HN⟩
        case measure => simp [intOf]; omega
      · have HE : Hid (strTo (bl s) k s.size = l) := Lib.hid (by rw [HL.out]; congr 1; omega)
        clear hl
        go_wp2
        (first | go_ret | go_ret2)
        exact ⟨by first | (rw [HE.out]; rfl) | rw [HE.out], HB.out⟩
theorem stretchLine_both (s : ByteArray) (k : Int) (hs : s.size ≤ 1048576) (wk : (Lit.int .i64 k).wf = true) : ∃ (R0 : ByteArray) (R1 : Bool),
    Hid (∀ W, Calls Tryd.prog 35 #[.string s, .int .i64 k] W fun e W' => e = .returned (.tuple #[.string R0, .bool R1]) ∧ Below W.heap.size W W') ∧
    Hid (∀ W, Calls Tryd.prog 36 #[.string s, .int .i64 k] W fun e W' => e = .returned (.tuple #[.string R0, .bool R1]) ∧ Below W.heap.size W W') := by
  cases h1 : lineL (bl s)
  · exact ⟨_, _, fun W => sStretch_no0 s k W hs wk h1, fun W => stretch_no0 s k W hs wk h1⟩
  · by_cases hk : k < 1 ∨ 9 < k
    · exact ⟨_, _, fun W => sStretch_no1 s k W hs wk h1 hk, fun W => stretch_no1 s k W hs wk h1 hk⟩
    · obtain ⟨n, rfl⟩ : ∃ n : Nat, k = n := ⟨k.toNat, by omega⟩
      by_cases h3 : 200 < s.size * n
      · exact ⟨_, _, fun W => sStretch_no2 s n W hs h1 (by omega) (by omega) h3, fun W => stretch_no2 s n W hs h1 (by omega) (by omega) h3⟩
      · exact ⟨_, _, fun W => sStretch_yes s n W hs h1 (by omega) (by omega) (by omega), fun W => stretch_yes s n W hs h1 (by omega) (by omega) (by omega)⟩
end Go.Proofs.YtijhfmjkiijhiaaDoor
