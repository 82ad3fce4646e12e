/-
  Drifts and the best unit, the program's and the model's. Used by the claims on chapter 5.
-/
import Derived.Test.YtgfmcpipbmnagaaDoorDrfW
import Derived.Deep.QuietTactic
namespace Go.Proofs.YtgfmcpipbmnagaaDoor
open Go.RowKit
set_option linter.unusedVariables false

theorem isTrace_m (m : List Nat) (h : IsTr m) : Hid (∀ W a g c, SrcV W a g (ints m) → Calls Tryd.prog 36 #[.slice a m.length c] W fun e W' => e = .returned (.bool true) ∧ Below W.heap.size W W') := fun W a g c hs => by
  have h2 := (traceZ_zs m).2 h
  have := isTrace_any a g c (zs m) W (by rw [zs_ints]; exact hs) (by rw [zs_len]; have := h.len; omega)
  rw [zs_len, h2] at this
  exact this
theorem sTrace_m (m : List Nat) (h : IsTr m) : Hid (∀ W a g c, SrcV W a g (ints m) → Calls Tryd.prog 39 #[.slice a m.length c] W fun e W' => e = .returned (.bool true) ∧ Below W.heap.size W W') := fun W a g c hs => by
  have h2 := (traceZ_zs m).2 h
  have := sTrace_any a g c (zs m) W (by rw [zs_ints]; exact hs) (by rw [zs_len]; have := h.len; omega)
  rw [zs_len, h2] at this
  exact this
theorem isTrace_f (l : List Int) (B : Bool) (h : traceZ l = B) (hl : l.length ≤ 1048576) : Hid (∀ W a g c, SrcV W a g (intz l) → Calls Tryd.prog 36 #[.slice a l.length c] W fun e W' => e = .returned (.bool B) ∧ Below W.heap.size W W') := fun W a g c hs => by
  rw [← h]; exact isTrace_any a g c l W hs hl
theorem sTrace_f (l : List Int) (B : Bool) (h : traceZ l = B) (hl : l.length ≤ 1048576) : Hid (∀ W a g c, SrcV W a g (intz l) → Calls Tryd.prog 39 #[.slice a l.length c] W fun e W' => e = .returned (.bool B) ∧ Below W.heap.size W W') := fun W a g c hs => by
  rw [← h]; exact sTrace_any a g c l W hs hl
theorem isUnit_f (x : Int) (B : Bool) (h : okUnit x = B) : Hid (∀ W, Calls Tryd.prog 52 #[.int .i64 x] W fun e W' => e = .returned (.bool B) ∧ W' = W) := fun W => by
  rw [← h]; exact isUnit_any x W
theorem sUnit_f (x : Int) (B : Bool) (h : okUnit x = B) : Hid (∀ W, Calls Tryd.prog 40 #[.int .i64 x] W fun e W' => e = .returned (.bool B) ∧ W' = W) := fun W => by
  rw [← h]; exact sUnit_at x W
theorem okUnit_of (u : Nat) (h0 : 1 ≤ u) (h1 : u ≤ 99) : okUnit (u : Int) = true := by simp [okUnit]; omega
set_option maxHeartbeats 4000000 in
set_option maxRecDepth 8000 in
theorem sDrift_any (a : Option Addr) (g c : Nat) (m : List Nat) (u : Nat) (w : World) (hs : SrcV w a g (ints m)) (h : IsTr m) (hu : u ≤ 99) :
    Calls Tryd.prog 58 #[.slice a m.length c, .int .i64 u] w fun e w' => e = .returned (.int .i64 ((drL m u : Nat) : Int)) ∧ Below w.heap.size w w' := by
  have HS := Lib.hid fun W hb => hs.below (w' := W) hb
  have HX := Lib.hid hs.1
  have HT := Lib.hid h
  have hl := h.len
  clear hs h
  have u1 : (u : Int) ≤ 99 := by omega
  go_enter Tryd.func58, Tryd.ntmps58
  go_wp2
  go_loopw [5, 6] (fun d v wr => ∃ (k dd : Nat), v = .int .i64 k ∧ k ≤ m.length ∧ d = .int .i64 dd ∧ dd ≤ 1692 * k ∧ Hid (dd = drTo m u k) ∧ Hid (Below w.heap.size w wr)) (fun _ v _ => m.length - (intOf v).toNat)
  case atStart => exact ⟨0, 0, rfl, Nat.zero_le _, rfl, Nat.le_refl _, Lib.hid rfl, Lib.hid (Below.refl _ _)⟩
  case round =>
    obtain ⟨k, dd, rfl, hk, rfl, hdd, HD, HB⟩ := hrel
    by_cases hlt : k < m.length
    · obtain rfl := HX.out (by rw [ints_len]; omega)
      have hsk := HS.out wr HB.out
      have d1 := hsk.2 k _ (ints_at hlt)
      have hx := (HT.out.at hlt).2
      have HN : Hid (drTo m u (k + 1) = dd + absd m[k] (tms k m[k] u * u)) := Lib.hid (by rw [drTo_succ hlt, ← HD.out])
      have hst := (dr_step k m[k] u hx hu).1
      have ht7 := (tms_bd k m[k] u).2
      have HR := Lib.hid fun w hs => sTimes_any (some ⟨g, 0, none⟩) g c m k u w hs hlt (by omega) (by omega) hu
      have HRr := Lib.hid (HR.out wr hsk)
      have HRs : Hid (∀ q, Calls Tryd.prog 65 #[.slice (some ⟨g, 0, none⟩) m.length c, .int .i64 k, .int .i64 u] (wr.drewN q) fun e w' => e = .returned (.int .i64 ((tms k m[k] u : Nat) : Int)) ∧ w' = wr.drewN q) := Lib.hid fun q => HR.out (wr.drewN q) (hsk.below ⟨rfl, rfl, rfl, Nat.le_refl _, fun _ _ => rfl⟩)
      clear HR HRr hsk
      generalize m[k] = x at d1 hx HN hst ht7 HRs
      generalize tms k x u = t at HN hst ht7 HRs
      obtain ⟨p, hp, hp2, p1, p2, p3⟩ := prod_facts t u ht7 hu
      rw [hp] at HN hst
      have HM := Lib.hid (absd_max2 x p)
      have HN2 : Hid (dd + absd x p = drTo m u (k + 1)) := Lib.hid HN.out.symm
      generalize absd x p = z at HN hst HM HN2
      have HZ : Hid (dd + z ≤ 1692 * (k + 1)) := Lib.hid (by omega)
      have HMo := Lib.hid fun w => val_eqT (v' := .int .i64 (z : Int)) (most_any ((x : Int) - (p : Int)) (-((x : Int) - (p : Int))) w) (by rw [HM.out])
      have i0 : (0 : Int) ≤ (k : Int) := by omega
      have i1 : (k : Int) < (m.length : Int) := by omega
      clear hp HN HM
      go_wp2_with fail
      go_quiet ((go_at_call 65; exact Calls.quiet_of_same (HRs.out _)))
      go_wp2_with fail
      refine (HMo.out _).mono ?_
      rintro e w2 ⟨rfl, hww⟩
      obtain rfl := hww.symm
      go_wp2
      go_roundw
      case rel => exact ⟨k + 1, dd + z, by go_num, by omega, by go_num, HZ.out, HN2, Lib.hid (HB.out.trans ⟨rfl, rfl, rfl, Nat.le_refl _, fun _ _ => rfl⟩)⟩
      case measure => simp [intOf]; omega
    · obtain rfl : k = m.length := by omega
      go_wp2
      go_ret
      exact ⟨by rw [HD.out]; rfl, HB.out⟩

theorem sDriftOf_no1 (a : Option Addr) (g c : Nat) (l : List Int) (x : Int) (w : World) (hs : SrcV w a g (intz l)) (hl : l.length ≤ 1048576) (h : traceZ l = false) :
    Calls Tryd.prog 29 #[.slice a l.length c, .int .i64 x] w fun e w' => e = .returned (.tuple #[.int .i64 0, .bool false]) ∧ Below w.heap.size w w' := by
  have F := sTrace_f l false h hl
  have HS := Lib.hid hs
  clear h hs
  go_enter Tryd.func29, Tryd.ntmps29
  go_wp2_with fail
  refine (F.out _ _ _ _ HS.out).mono ?_
  rintro e w1 ⟨rfl, hb⟩
  have HB := Lib.hid hb
  clear hb
  go_wp2
  (first | go_ret | go_ret2 | go_ret3)
  exact ⟨rfl, HB.out⟩
theorem sDriftOf_no2 (a : Option Addr) (g c : Nat) (l : List Int) (x : Int) (w : World) (hs : SrcV w a g (intz l)) (hl : l.length ≤ 1048576) (h : traceZ l = true) (h2 : okUnit x = false) :
    Calls Tryd.prog 29 #[.slice a l.length c, .int .i64 x] w fun e w' => e = .returned (.tuple #[.int .i64 0, .bool false]) ∧ Below w.heap.size w w' := by
  have F := sTrace_f l true h hl
  have G := sUnit_f x false h2
  have HS := Lib.hid hs
  clear h hs h2
  go_enter Tryd.func29, Tryd.ntmps29
  go_wp2_with fail
  refine (F.out _ _ _ _ HS.out).mono ?_
  rintro e w1 ⟨rfl, hb⟩
  have HB := Lib.hid hb
  clear hb
  go_wp2_with fail
  refine (G.out _).mono ?_
  rintro e w2 ⟨rfl, rfl⟩
  go_wp2
  (first | go_ret | go_ret2 | go_ret3)
  exact ⟨rfl, HB.out⟩
theorem sDriftOf_yes (a : Option Addr) (g c : Nat) (m : List Nat) (u : Nat) (w : World) (hs : SrcV w a g (ints m)) (hm : IsTr m) (hu0 : 1 ≤ u) (hu : u ≤ 99) :
    Calls Tryd.prog 29 #[.slice a m.length c, .int .i64 u] w fun e w' => e = .returned (.tuple #[.int .i64 ((drL m u : Nat) : Int), .bool true]) ∧ Below w.heap.size w w' := by
  have F := sTrace_m m hm
  have G := sUnit_f (u : Int) true (okUnit_of u hu0 hu)
  have HD := Lib.hid fun w hs => sDrift_any a g c m u w hs hm hu
  have HS := Lib.hid hs
  clear hs hm
  go_enter Tryd.func29, Tryd.ntmps29
  go_wp2_with fail
  refine (F.out _ _ _ _ HS.out).mono ?_
  rintro e w1 ⟨rfl, hb⟩
  have HB := Lib.hid hb
  have HS1 := Lib.hid (HS.out.below hb)
  clear hb
  go_wp2_with fail
  refine (G.out _).mono ?_
  rintro e w2 ⟨rfl, hww⟩
  obtain rfl := hww.symm
  go_wp2_with fail
  refine (HD.out _ HS1.out).mono ?_
  rintro e w3 ⟨rfl, hb⟩
  have HB3 := Lib.hid (HB.out.trans (hb.mono HB.out.size))
  clear hb
  go_wp2
  (first | go_ret | go_ret2 | go_ret3)
  exact ⟨rfl, HB3.out⟩
theorem driftOf_no1 (a : Option Addr) (g c : Nat) (l : List Int) (x : Int) (w : World) (hs : SrcV w a g (intz l)) (hl : l.length ≤ 1048576) (h : traceZ l = false) :
    Calls Tryd.prog 28 #[.slice a l.length c, .int .i64 x] w fun e w' => e = .returned (.tuple #[.int .i64 0, .bool false]) ∧ Below w.heap.size w w' := by
  have F := isTrace_f l false h hl
  have HS := Lib.hid hs
  clear h hs
  go_enter Tryd.func28, Tryd.ntmps28
  go_wp2_with fail
  refine (F.out _ _ _ _ HS.out).mono ?_
  rintro e w1 ⟨rfl, hb⟩
  have HB := Lib.hid hb
  clear hb
  go_wp2
  (first | go_ret | go_ret2 | go_ret3)
  exact ⟨rfl, HB.out⟩
theorem driftOf_no2 (a : Option Addr) (g c : Nat) (l : List Int) (x : Int) (w : World) (hs : SrcV w a g (intz l)) (hl : l.length ≤ 1048576) (h : traceZ l = true) (h2 : okUnit x = false) :
    Calls Tryd.prog 28 #[.slice a l.length c, .int .i64 x] w fun e w' => e = .returned (.tuple #[.int .i64 0, .bool false]) ∧ Below w.heap.size w w' := by
  have F := isTrace_f l true h hl
  have G := isUnit_f x false h2
  have HS := Lib.hid hs
  clear h hs h2
  go_enter Tryd.func28, Tryd.ntmps28
  go_wp2_with fail
  refine (F.out _ _ _ _ HS.out).mono ?_
  rintro e w1 ⟨rfl, hb⟩
  have HB := Lib.hid hb
  clear hb
  go_wp2_with fail
  refine (G.out _).mono ?_
  rintro e w2 ⟨rfl, rfl⟩
  go_wp2
  (first | go_ret | go_ret2 | go_ret3)
  exact ⟨rfl, HB.out⟩
theorem driftOf_yes (a : Option Addr) (g c : Nat) (m : List Nat) (u : Nat) (w : World) (hs : SrcV w a g (ints m)) (hm : IsTr m) (hu0 : 1 ≤ u) (hu : u ≤ 99) :
    Calls Tryd.prog 28 #[.slice a m.length c, .int .i64 u] w fun e w' => e = .returned (.tuple #[.int .i64 ((drL m u : Nat) : Int), .bool true]) ∧ Below w.heap.size w w' := by
  have F := isTrace_m m hm
  have G := isUnit_f (u : Int) true (okUnit_of u hu0 hu)
  have HD := Lib.hid fun w hs => driftOf_any a g c m u w hs hm hu
  have HS := Lib.hid hs
  clear hs hm
  go_enter Tryd.func28, Tryd.ntmps28
  go_wp2_with fail
  refine (F.out _ _ _ _ HS.out).mono ?_
  rintro e w1 ⟨rfl, hb⟩
  have HB := Lib.hid hb
  have HS1 := Lib.hid (HS.out.below hb)
  clear hb
  go_wp2_with fail
  refine (G.out _).mono ?_
  rintro e w2 ⟨rfl, hww⟩
  obtain rfl := hww.symm
  go_wp2_with fail
  refine (HD.out _ HS1.out).mono ?_
  rintro e w3 ⟨rfl, hb⟩
  have HB3 := Lib.hid (HB.out.trans (hb.mono HB.out.size))
  clear hb
  go_wp2
  (first | go_ret | go_ret2 | go_ret3)
  exact ⟨rfl, HB3.out⟩
theorem driftOf_both (l : List Int) (x : Int) (hl : l.length ≤ 1048576) (hi : InI l) (wx : (Lit.int .i64 x).wf = true) : ∃ (R0 : Int) (R1 : Bool),
    Hid (∀ W a g c, SrcV W a g (intz l) → Calls Tryd.prog 29 #[.slice a l.length c, .int .i64 x] W fun e W' => e = .returned (.tuple #[.int .i64 R0, .bool R1]) ∧ Below W.heap.size W W') ∧
    Hid (∀ W a g c, SrcV W a g (intz l) → Calls Tryd.prog 28 #[.slice a l.length c, .int .i64 x] W fun e W' => e = .returned (.tuple #[.int .i64 R0, .bool R1]) ∧ Below W.heap.size W W') := by
  cases h : traceZ l
  · exact ⟨_, _, fun W a g c hs => sDriftOf_no1 a g c l x W hs hl h, fun W a g c hs => driftOf_no1 a g c l x W hs hl h⟩
  · cases h2 : okUnit x
    · exact ⟨_, _, fun W a g c hs => sDriftOf_no2 a g c l x W hs hl h h2, fun W a g c hs => driftOf_no2 a g c l x W hs hl h h2⟩
    · obtain ⟨m, rfl, hm⟩ := traceZ_nat h
      obtain ⟨u, rfl, hu0, hu⟩ := okUnit_nat h2
      rw [zs_len, zs_ints]
      exact ⟨_, _, fun W a g c hs => sDriftOf_yes a g c m u W hs hm hu0 hu, fun W a g c hs => driftOf_yes a g c m u W hs hm hu0 hu⟩

theorem sBestUnit_no1 (a : Option Addr) (g c : Nat) (l : List Int) (w : World) (hs : SrcV w a g (intz l)) (hl : l.length ≤ 1048576) (h : traceZ l = false) :
    Calls Tryd.prog 31 #[.slice a l.length c] w fun e w' => e = .returned (.tuple #[.int .i64 0, .int .i64 0, .bool false]) ∧ Below w.heap.size w w' := by
  have F := sTrace_f l false h hl
  have HS := Lib.hid hs
  clear h hs
  go_enter Tryd.func31, Tryd.ntmps31
  go_wp2_with fail
  refine (F.out _ _ _ _ HS.out).mono ?_
  rintro e w1 ⟨rfl, hb⟩
  have HB := Lib.hid hb
  clear hb
  go_wp2
  (first | go_ret | go_ret2 | go_ret3)
  exact ⟨rfl, HB.out⟩
set_option maxHeartbeats 4000000 in
theorem sBestUnit_yes (a : Option Addr) (g c : Nat) (m : List Nat) (w : World) (hs : SrcV w a g (ints m)) (hm : IsTr m) :
    Calls Tryd.prog 31 #[.slice a m.length c] w fun e w' => e = .returned (.tuple #[.int .i64 (((bestTo m 98).1 : Nat) : Int), .int .i64 (((bestTo m 98).2 : Nat) : Int), .bool true]) ∧ Below w.heap.size w w' := by
  have F := sTrace_m m hm
  have HD := Lib.hid fun u (hu : u ≤ 99) w hs => sDrift_any a g c m u w hs hm hu
  have HM := Lib.hid hm
  have HS := Lib.hid fun W hb => hs.below (w' := W) hb
  have HS0 := Lib.hid hs
  clear hs hm
  go_enter Tryd.func31, Tryd.ntmps31
  go_wp2_with fail
  refine (F.out _ _ _ _ HS0.out).mono ?_
  rintro e w1 ⟨rfl, hb⟩
  have HB := Lib.hid hb
  clear hb
  go_wp2_with fail
  refine (HD.out 1 (by omega) _ (HS.out _ HB.out)).mono ?_
  rintro e w2 ⟨rfl, hb⟩
  have HB2 := Lib.hid (HB.out.trans (hb.mono HB.out.size))
  clear hb
  go_wp2
  go_loopw [5, 6, 7] (fun b d v wr => ∃ (k bb dd : Nat), v = .int .i64 ((k + 2 : Nat) : Int) ∧ k ≤ 98 ∧ b = .int .i64 bb ∧ d = .int .i64 dd ∧ Hid ((bb, dd) = bestTo m k) ∧ Hid (Below w.heap.size w wr)) (fun _ _ v _ => 100 - (intOf v).toNat)
  case atStart => exact ⟨0, 1, drL m 1, rfl, by omega, rfl, rfl, Lib.hid rfl, HB2⟩
  case round =>
    obtain ⟨k, bb, dd, rfl, hk, rfl, rfl, HE, HB3⟩ := hrel
    have e0 : ((k + 2 : Nat) : Int) = (k : Int) + 2 := by omega
    rw [e0]
    by_cases hlt : k < 98
    · have i1 : (k : Int) + 2 ≤ 99 := by omega
      have HN : Hid (bestTo m (k + 1) = if drL m (k + 2) < dd then (k + 2, drL m (k + 2)) else (bb, dd)) := Lib.hid (by rw [bestTo, ← HE.out])
      have hd1 := drL_le HM.out (u := k + 2) (by omega)
      have hd2 : dd ≤ 300000 := by
        have := (bestTo_bd HM.out k hk).2
        rw [← HE.out] at this
        exact this
      have HC := Lib.hid (HD.out (k + 2) (by omega) _ (HS.out _ HB3.out))
      rw [e0] at HC
      generalize drL m (k + 2) = d at HN hd1 HC
      by_cases hd : d < dd
      · have hd' : (d : Int) < (dd : Int) := by omega
        have HN2 : Hid ((k + 2, d) = bestTo m (k + 1)) := Lib.hid (by rw [HN.out, if_pos hd])
        clear HN hd
        go_wp2_with fail
        refine HC.out.mono ?_
        rintro e w4 ⟨rfl, hb⟩
        have HB4 := Lib.hid (HB3.out.trans (hb.mono HB3.out.size))
        clear hb
        go_wp2
        go_roundw
        case rel => exact ⟨k + 1, k + 2, d, by go_num, by omega, by rw [e0], rfl, HN2, HB4⟩
        case measure => simp [intOf]; omega
      · have hd' : ¬ (d : Int) < (dd : Int) := by omega
        have HN2 : Hid ((bb, dd) = bestTo m (k + 1)) := Lib.hid (by rw [HN.out, if_neg hd])
        clear HN hd
        go_wp2_with fail
        refine HC.out.mono ?_
        rintro e w4 ⟨rfl, hb⟩
        have HB4 := Lib.hid (HB3.out.trans (hb.mono HB3.out.size))
        clear hb
        go_wp2
        go_roundw
        case rel => exact ⟨k + 1, bb, dd, by go_num, by omega, rfl, rfl, HN2, HB4⟩
        case measure => simp [intOf]; omega
    · obtain rfl : k = 98 := by omega
      go_wp2
      (first | go_ret | go_ret2 | go_ret3)
      exact ⟨by first | (rw [← HE.out]; rfl) | (rw [← HE.out]; simp) | (have h := HE.out; have h1 := congrArg Prod.fst h; have h2 := congrArg Prod.snd h; simp only at h1 h2; rw [← h1, ← h2]; rfl), HB3.out⟩
theorem bestUnit_no1 (a : Option Addr) (g c : Nat) (l : List Int) (w : World) (hs : SrcV w a g (intz l)) (hl : l.length ≤ 1048576) (h : traceZ l = false) :
    Calls Tryd.prog 30 #[.slice a l.length c] w fun e w' => e = .returned (.tuple #[.int .i64 0, .int .i64 0, .bool false]) ∧ Below w.heap.size w w' := by
  have F := isTrace_f l false h hl
  have HS := Lib.hid hs
  clear h hs
  go_enter Tryd.func30, Tryd.ntmps30
  go_wp2_with fail
  refine (F.out _ _ _ _ HS.out).mono ?_
  rintro e w1 ⟨rfl, hb⟩
  have HB := Lib.hid hb
  clear hb
  go_wp2
  (first | go_ret | go_ret2 | go_ret3)
  exact ⟨rfl, HB.out⟩
set_option maxHeartbeats 4000000 in
theorem bestUnit_yes (a : Option Addr) (g c : Nat) (m : List Nat) (w : World) (hs : SrcV w a g (ints m)) (hm : IsTr m) :
    Calls Tryd.prog 30 #[.slice a m.length c] w fun e w' => e = .returned (.tuple #[.int .i64 (((bestTo m 98).1 : Nat) : Int), .int .i64 (((bestTo m 98).2 : Nat) : Int), .bool true]) ∧ Below w.heap.size w w' := by
  have F := isTrace_m m hm
  have HD := Lib.hid fun u (hu : u ≤ 99) w hs => driftOf_any a g c m u w hs hm hu
  have HM := Lib.hid hm
  have HS := Lib.hid fun W hb => hs.below (w' := W) hb
  have HS0 := Lib.hid hs
  clear hs hm
  go_enter Tryd.func30, Tryd.ntmps30
  go_wp2_with fail
  refine (F.out _ _ _ _ HS0.out).mono ?_
  rintro e w1 ⟨rfl, hb⟩
  have HB := Lib.hid hb
  clear hb
  go_wp2_with fail
  refine (HD.out 1 (by omega) _ (HS.out _ HB.out)).mono ?_
  rintro e w2 ⟨rfl, hb⟩
  have HB2 := Lib.hid (HB.out.trans (hb.mono HB.out.size))
  clear hb
  go_wp2
  go_loopw [5, 6, 7] (fun b d v wr => ∃ (k bb dd : Nat), v = .int .i64 ((k + 2 : Nat) : Int) ∧ k ≤ 98 ∧ b = .int .i64 bb ∧ d = .int .i64 dd ∧ Hid ((bb, dd) = bestTo m k) ∧ Hid (Below w.heap.size w wr)) (fun _ _ v _ => 100 - (intOf v).toNat)
  case atStart => exact ⟨0, 1, drL m 1, rfl, by omega, rfl, rfl, Lib.hid rfl, HB2⟩
  case round =>
    obtain ⟨k, bb, dd, rfl, hk, rfl, rfl, HE, HB3⟩ := hrel
    have e0 : ((k + 2 : Nat) : Int) = (k : Int) + 2 := by omega
    rw [e0]
    by_cases hlt : k < 98
    · have i1 : (k : Int) + 2 ≤ 99 := by omega
      have HN : Hid (bestTo m (k + 1) = if drL m (k + 2) < dd then (k + 2, drL m (k + 2)) else (bb, dd)) := Lib.hid (by rw [bestTo, ← HE.out])
      have hd1 := drL_le HM.out (u := k + 2) (by omega)
      have hd2 : dd ≤ 300000 := by
        have := (bestTo_bd HM.out k hk).2
        rw [← HE.out] at this
        exact this
      have HC := Lib.hid (HD.out (k + 2) (by omega) _ (HS.out _ HB3.out))
      rw [e0] at HC
      generalize drL m (k + 2) = d at HN hd1 HC
      by_cases hd : d < dd
      · have hd' : (d : Int) < (dd : Int) := by omega
        have HN2 : Hid ((k + 2, d) = bestTo m (k + 1)) := Lib.hid (by rw [HN.out, if_pos hd])
        clear HN hd
        go_wp2_with fail
        refine HC.out.mono ?_
        rintro e w4 ⟨rfl, hb⟩
        have HB4 := Lib.hid (HB3.out.trans (hb.mono HB3.out.size))
        clear hb
        go_wp2
        go_roundw
        case rel => exact ⟨k + 1, k + 2, d, by go_num, by omega, by rw [e0], rfl, HN2, HB4⟩
        case measure => simp [intOf]; omega
      · have hd' : ¬ (d : Int) < (dd : Int) := by omega
        have HN2 : Hid ((bb, dd) = bestTo m (k + 1)) := Lib.hid (by rw [HN.out, if_neg hd])
        clear HN hd
        go_wp2_with fail
        refine HC.out.mono ?_
        rintro e w4 ⟨rfl, hb⟩
        have HB4 := Lib.hid (HB3.out.trans (hb.mono HB3.out.size))
        clear hb
        go_wp2
        go_roundw
        case rel => exact ⟨k + 1, bb, dd, by go_num, by omega, rfl, rfl, HN2, HB4⟩
        case measure => simp [intOf]; omega
    · obtain rfl : k = 98 := by omega
      go_wp2
      (first | go_ret | go_ret2 | go_ret3)
      exact ⟨by first | (rw [← HE.out]; rfl) | (rw [← HE.out]; simp) | (have h := HE.out; have h1 := congrArg Prod.fst h; have h2 := congrArg Prod.snd h; simp only at h1 h2; rw [← h1, ← h2]; rfl), HB3.out⟩
theorem bestUnit_both (l : List Int) (hl : l.length ≤ 1048576) (hi : InI l) : ∃ (R0 R1 : Int) (R2 : Bool),
    Hid (∀ W a g c, SrcV W a g (intz l) → Calls Tryd.prog 31 #[.slice a l.length c] W fun e W' => e = .returned (.tuple #[.int .i64 R0, .int .i64 R1, .bool R2]) ∧ Below W.heap.size W W') ∧
    Hid (∀ W a g c, SrcV W a g (intz l) → Calls Tryd.prog 30 #[.slice a l.length c] W fun e W' => e = .returned (.tuple #[.int .i64 R0, .int .i64 R1, .bool R2]) ∧ Below W.heap.size W W') := by
  cases h : traceZ l
  · exact ⟨_, _, _, fun W a g c hs => sBestUnit_no1 a g c l W hs hl h, fun W a g c hs => bestUnit_no1 a g c l W hs hl h⟩
  · obtain ⟨m, rfl, hm⟩ := traceZ_nat h
    rw [zs_len, zs_ints]
    exact ⟨_, _, _, fun W a g c hs => sBestUnit_yes a g c m W hs hm, fun W a g c hs => bestUnit_yes a g c m W hs hm⟩
end Go.Proofs.YtgfmcpipbmnagaaDoor
