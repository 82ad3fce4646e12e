/-
  The two errors in memory; readTrace and ReadTrace of the program. Used by the claims on chapter 5.
-/
import Derived.Test.YtgfmcpipbmnagaaDoorRdS
import Derived.BigQuiet
import Derived.Deep.QuietTactic
namespace Go.Proofs.YtgfmcpipbmnagaaDoor
open Go.RowKit
set_option linter.unusedVariables false

/-- What the two package-level errors hold. -/
structure Sent (W : World) (a0 a1 : Addr) : Prop where
  c0 : W.cell? ⟨0, 0, none⟩ = some (.iface 118 (.pointer (some a0)))
  c1 : W.cell? ⟨1, 0, none⟩ = some (.iface 118 (.pointer (some a1)))
  b0 : ∃ c t, W.heap[a0.block]? = some (.cells c t (0, 0))
  b1 : ∃ c t, W.heap[a1.block]? = some (.cells c t (0, 0))
  ne : a0 ≠ a1
theorem Sent.below {W W' : World} {a0 a1 : Addr} (h : Sent W a0 a1) (hb : Below W.heap.size W W') : Sent W' a0 a1 := by
  obtain ⟨c, t, h0⟩ := h.b0
  obtain ⟨c', t', h1⟩ := h.b1
  exact ⟨(hb.cell (World.block_lt_of_cell? _ _ h.c0)).trans h.c0, (hb.cell (World.block_lt_of_cell? _ _ h.c1)).trans h.c1, ⟨c, t, (hb.block _ (Array.getElem?_eq_some_iff.1 h0).1).trans h0⟩, ⟨c', t', (hb.block _ (Array.getElem?_eq_some_iff.1 h1).1).trans h1⟩, h.ne⟩
theorem eqPairR (a b c d : Int) (w : World) : (Op.equalIn 10000 57 (.agg #[.int .i64 a, .int .i64 b]) (.agg #[.int .i64 c, .int .i64 d])).run Tryd.prog w = .ok (a == c && b == d) w := by
  have u3 := Tryd.underlying3
  have a3 := Tryd.isAgg3
  have z3 := Tryd.sizeOf3
  rw [show (10000 : Nat) = 9999 + 1 from rfl, Op.equalIn]
  simp only [Sem.run_bind, run_underlying Tryd.underlying57, Result.andThen_ok]
  simp only [Std.Legacy.Range.forIn_eq_forIn_range', Std.Legacy.Range.size, Nat.sub_zero, Nat.add_sub_cancel, Nat.div_one, List.range'_succ, List.range'_zero, List.forIn_cons, List.forIn_nil]
  go_simp
  by_cases h1 : a = c <;> by_cases h2 : b = d <;> simp [h1, h2]
theorem eqPairR_b {a b c d : Int} {w : World} {r : Bool} (h : (a == c && b == d) = r) : (Op.equalIn 10000 57 (.agg #[.int .i64 a, .int .i64 b]) (.agg #[.int .i64 c, .int .i64 d])).run Tryd.prog w = .ok r w := by rw [eqPairR, h]
set_option maxRecDepth 100000 in
set_option maxHeartbeats 4000000 in
theorem signsRun_any (X Y : Int) (r : Bs) (w : World) (h : (X = 1 ∧ Y = 1 ∧ r = [46]) ∨ (X = 1 ∧ Y = 3 ∧ r = [45]) ∨ (X = 0 ∧ Y = 1 ∧ r = []) ∨ (X = 0 ∧ Y = 3 ∧ r = [32]) ∨ (X = 0 ∧ Y = 7 ∧ r = [47])) :
    Calls Tryd.prog 68 #[.agg #[.int .i64 X, .int .i64 Y]] w fun e w' => e = .returned (.tuple #[.string ⟨r.toArray⟩, .bool true]) ∧ Below w.heap.size w w' := by
  rcases h with ⟨rfl, rfl, rfl⟩ | ⟨rfl, rfl, rfl⟩ | ⟨rfl, rfl, rfl⟩ | ⟨rfl, rfl, rfl⟩ | ⟨rfl, rfl, rfl⟩
  · have q0 := eqPairR_b (a := 1) (b := 1) (c := 1) (d := 1) (w := w.alloc (.cells #[.int .i64 1, .int .i64 1] 57)) (r := true) rfl
    go_enter Tryd.func68, Tryd.ntmps68
    go_wp2
    go_ret2
    exact ⟨rfl, below_alloc _ _⟩
  · have q0 := eqPairR_b (a := 1) (b := 3) (c := 1) (d := 1) (w := w.alloc (.cells #[.int .i64 1, .int .i64 3] 57)) (r := false) rfl
    have q1 := eqPairR_b (a := 1) (b := 3) (c := 1) (d := 3) (w := w.alloc (.cells #[.int .i64 1, .int .i64 3] 57)) (r := true) rfl
    go_enter Tryd.func68, Tryd.ntmps68
    go_wp2
    go_ret2
    exact ⟨rfl, below_alloc _ _⟩
  · have q0 := eqPairR_b (a := 0) (b := 1) (c := 1) (d := 1) (w := w.alloc (.cells #[.int .i64 0, .int .i64 1] 57)) (r := false) rfl
    have q1 := eqPairR_b (a := 0) (b := 1) (c := 1) (d := 3) (w := w.alloc (.cells #[.int .i64 0, .int .i64 1] 57)) (r := false) rfl
    have q2 := eqPairR_b (a := 0) (b := 1) (c := 0) (d := 1) (w := w.alloc (.cells #[.int .i64 0, .int .i64 1] 57)) (r := true) rfl
    go_enter Tryd.func68, Tryd.ntmps68
    go_wp2
    go_ret2
    exact ⟨rfl, below_alloc _ _⟩
  · have q0 := eqPairR_b (a := 0) (b := 3) (c := 1) (d := 1) (w := w.alloc (.cells #[.int .i64 0, .int .i64 3] 57)) (r := false) rfl
    have q1 := eqPairR_b (a := 0) (b := 3) (c := 1) (d := 3) (w := w.alloc (.cells #[.int .i64 0, .int .i64 3] 57)) (r := false) rfl
    have q2 := eqPairR_b (a := 0) (b := 3) (c := 0) (d := 1) (w := w.alloc (.cells #[.int .i64 0, .int .i64 3] 57)) (r := false) rfl
    have q3 := eqPairR_b (a := 0) (b := 3) (c := 0) (d := 3) (w := w.alloc (.cells #[.int .i64 0, .int .i64 3] 57)) (r := true) rfl
    go_enter Tryd.func68, Tryd.ntmps68
    go_wp2
    go_ret2
    exact ⟨rfl, below_alloc _ _⟩
  · have q0 := eqPairR_b (a := 0) (b := 7) (c := 1) (d := 1) (w := w.alloc (.cells #[.int .i64 0, .int .i64 7] 57)) (r := false) rfl
    have q1 := eqPairR_b (a := 0) (b := 7) (c := 1) (d := 3) (w := w.alloc (.cells #[.int .i64 0, .int .i64 7] 57)) (r := false) rfl
    have q2 := eqPairR_b (a := 0) (b := 7) (c := 0) (d := 1) (w := w.alloc (.cells #[.int .i64 0, .int .i64 7] 57)) (r := false) rfl
    have q3 := eqPairR_b (a := 0) (b := 7) (c := 0) (d := 3) (w := w.alloc (.cells #[.int .i64 0, .int .i64 7] 57)) (r := false) rfl
    have q4 := eqPairR_b (a := 0) (b := 7) (c := 0) (d := 7) (w := w.alloc (.cells #[.int .i64 0, .int .i64 7] 57)) (r := true) rfl
    go_enter Tryd.func68, Tryd.ntmps68
    go_wp2
    go_ret2
    exact ⟨rfl, below_alloc _ _⟩
theorem readTr_no1 (a : Option Addr) (g c : Nat) (l : List Int) (x : Int) (a0 a1 : Addr) (w : World) (hs : SrcV w a g (intz l)) (hl : l.length ≤ 1048576) (hS : Sent w a0 a1) (h : traceZ l = false) :
    Calls Tryd.prog 43 #[.slice a l.length c, .int .i64 x] w fun e w' => e = .returned (.tuple #[.string ByteArray.empty, .iface 118 (.pointer (some a1))]) ∧ Below w.heap.size w w' := by
  have F1 := isTrace_f l false h hl
  have HS := Lib.hid hs
  have HE := Lib.hid hS
  clear h hs hS
  go_enter Tryd.func43, Tryd.ntmps43
  go_wp2_with fail
  refine (F1.out _ _ _ _ HS.out).mono ?_
  rintro e w1 ⟨rfl, hb⟩
  have HB := Lib.hid hb
  have d1 := (HE.out.below hb).c1
  clear hb
  go_wp2
  go_quiet (fail)
  go_wp2
  (first | go_ret | go_ret2)
  exact ⟨rfl, HB.out.trans ⟨rfl, rfl, rfl, Nat.le_refl _, fun _ _ => rfl⟩⟩
theorem readTr_no2 (a : Option Addr) (g c : Nat) (l : List Int) (x : Int) (a0 a1 : Addr) (w : World) (hs : SrcV w a g (intz l)) (hl : l.length ≤ 1048576) (hS : Sent w a0 a1) (h : traceZ l = true) (h2 : okUnit x = false) :
    Calls Tryd.prog 43 #[.slice a l.length c, .int .i64 x] w fun e w' => e = .returned (.tuple #[.string ByteArray.empty, .iface 118 (.pointer (some a1))]) ∧ Below w.heap.size w w' := by
  have F1 := isTrace_f l true h hl
  have F2 := isUnit_f x false h2
  have HS := Lib.hid hs
  have HE := Lib.hid hS
  clear h hs hS h2
  go_enter Tryd.func43, Tryd.ntmps43
  go_wp2_with fail
  refine (F1.out _ _ _ _ HS.out).mono ?_
  rintro e w1 ⟨rfl, hb⟩
  have HB := Lib.hid hb
  have d1 := (HE.out.below hb).c1
  clear hb
  go_wp2_with fail
  refine (F2.out _).mono ?_
  rintro e w2 ⟨rfl, hww⟩
  obtain rfl := hww.symm
  go_wp2
  go_quiet (fail)
  go_wp2
  (first | go_ret | go_ret2)
  exact ⟨rfl, HB.out.trans ⟨rfl, rfl, rfl, Nat.le_refl _, fun _ _ => rfl⟩⟩
def rtV (m : List Nat) (u : Nat) (a0 : Addr) : ByteArray × Value := if (pieces (rdL m u)).isSome = true then (⟨(rdL m u).toArray⟩, .nilIface) else (ByteArray.empty, .iface 118 (.pointer (some a0)))
theorem cat0 (l r : Bs) : ((⟨l.toArray⟩ : ByteArray) ++ ⟨r.toArray⟩) = ⟨(l ++ r).toArray⟩ := by
  apply bl_inj; simp [bl]
set_option maxHeartbeats 4000000 in
set_option maxRecDepth 8000 in
theorem readTr_yes (a : Option Addr) (g c : Nat) (m : List Nat) (u : Nat) (a0 a1 : Addr) (w : World) (hs : SrcV w a g (ints m)) (hm : IsTr m) (hu0 : 1 ≤ u) (hu : u ≤ 99) (hS : Sent w a0 a1) :
    Calls Tryd.prog 43 #[.slice a m.length c, .int .i64 u] w fun e w' => e = .returned (.tuple #[.string (rtV m u a0).1, (rtV m u a0).2]) ∧ Below w.heap.size w w' := by
  have F1 := isTrace_m m hm
  have F2 := isUnit_f (u : Int) true (okUnit_of u hu0 hu)
  have HT := Lib.hid hm
  have hl := hm.len
  have hlen := rdTo_len m u m.length
  have HSg := Lib.hid fun W => isSignal_any ⟨(rdL m u).toArray⟩ W (by show (rdL m u).toArray.size ≤ _; rw [List.size_toArray]; unfold rdL; omega)
  have HS := Lib.hid fun W hb => hs.below (w' := W) hb
  have HE := Lib.hid fun W hb => hS.below (W' := W) hb
  have n1 : 0 < m.length := by have := hm.odd; omega
  obtain rfl := hs.1 (by rw [ints_len]; exact n1)
  clear hs hm hS
  go_enter Tryd.func43, Tryd.ntmps43
  go_wp2_with fail
  refine (F1.out _ _ _ _ (HS.out _ (Below.refl _ _))).mono ?_
  rintro e w1 ⟨rfl, hb⟩
  have HB := Lib.hid hb
  clear hb
  go_wp2_with fail
  refine (F2.out _).mono ?_
  rintro e w2 ⟨rfl, hww⟩
  obtain rfl := hww.symm
  go_wp2
  go_loopw [6, 22] (fun sv v wr => ∃ (k : Nat) (l : Bs), v = .int .i64 (k : Int) ∧ k ≤ m.length ∧ sv = .string ⟨l.toArray⟩ ∧ l.length ≤ k ∧ Hid (l = rdTo m u k) ∧ Hid (Below w.heap.size w wr)) (fun _ v _ => m.length - (intOf v).toNat)
  case atStart => exact ⟨0, [], rfl, Nat.zero_le _, rfl, Nat.le_refl _, Lib.hid rfl, HB⟩
  case round =>
    obtain ⟨k, l, rfl, hk, rfl, hll, HL, HB2⟩ := hrel
    by_cases hlt : k < m.length
    · have d1 := (HS.out wr HB2.out).2 k _ (ints_at hlt)
      have hx := (HT.out.at hlt).2
      have HC := Lib.hid fun w => runOfLen_any k m[k] u w (by omega) (by omega) hu
      have HN : Hid (rdTo m u (k + 1) = l ++ rdB k m[k] u) := Lib.hid (by rw [rdTo_succ hlt, ← HL.out])
      have HSr := Lib.hid fun w => signsRun_any ((onOf k : Nat) : Int) ((tms k m[k] u : Nat) : Int) (rdB k m[k] u) w (by
        unfold onOf
        rcases rd_cases k m[k] u with ⟨h1, _, h2, h3⟩ | ⟨h1, _, h2, h3⟩ | ⟨h1, _, h2, h3⟩ | ⟨h1, _, h2, h3⟩ | ⟨h1, _, h2, h3⟩ <;> rw [h2, h3] <;> simp [h1])
      have hbl := rdB_len k m[k] u
      generalize tms k m[k] u = t at HC HSr
      generalize rdB k m[k] u = b at HN HSr hbl
      generalize m[k] = x at d1 HC hx
      generalize onOf k = on at HC HSr
      have HLn : Hid ((rdTo m u (k + 1)).length ≤ k + 1) := Lib.hid (rdTo_len m u (k + 1))
      have HV := Lib.hid (cat0 l b)
      have HM : Hid (k + 1 ≤ m.length) := Lib.hid hlt
      have hbz : (⟨b.toArray⟩ : ByteArray).size = b.length := by show b.toArray.size = _; simp
      generalize hbb : (⟨b.toArray⟩ : ByteArray) = bb at HSr HV hbz
      have p1 : ¬ 9223372036854775807 < l.length + bb.size := by omega
      have k0 : (0 : Int) ≤ (k : Int) := by omega
      have k1 : (k : Int) < (m.length : Int) := by omega
      clear hbb
      go_wp2_with fail
      refine (HC.out _).mono ?_
      rintro e w4 ⟨rfl, hb⟩
      have HB4 := Lib.hid (HB2.out.trans (hb.mono HB2.out.size))
      clear hb d1
      go_wp2_with fail
      refine (HSr.out _).mono ?_
      rintro e w5 ⟨rfl, hb⟩
      have HB5 := Lib.hid (HB4.out.trans (hb.mono HB4.out.size))
      clear hb
      go_wp2
      go_roundw
      case rel => exact ⟨k + 1, rdTo m u (k + 1), by go_num, HM.out, by rw [HV.out, HN.out], HLn.out, Lib.hid rfl, HB5⟩
      case measure => clear p1 hbz; simp [intOf]; omega
    · obtain rfl : k = m.length := by omega
      have HLe : Hid (l = rdL m u) := Lib.hid HL.out
      have d0 := Lib.hid fun W hb => (HE.out W hb).c0
      cases h : (pieces (rdL m u)).isSome
      · have HV : Hid (rtV m u a0 = (ByteArray.empty, .iface 118 (.pointer (some a0)))) := Lib.hid (by unfold rtV; rw [h]; rfl)
        rw [bl_of, h] at HSg
        rw [← HLe.out] at HSg
        clear h
        go_wp2_with fail
        refine (HSg.out _).mono ?_
        rintro e w4 ⟨rfl, hb⟩
        have HB4 := Lib.hid (HB2.out.trans (hb.mono HB2.out.size))
        have d4 := d0.out _ HB4.out
        clear hb
        go_wp2
        go_quiet (fail)
        go_wp2
        (first | go_ret | go_ret2)
        exact ⟨by rw [HV.out]; rfl, HB4.out.trans ⟨rfl, rfl, rfl, Nat.le_refl _, fun _ _ => rfl⟩⟩
      · have HV : Hid (rtV m u a0 = (⟨(rdL m u).toArray⟩, .nilIface)) := Lib.hid (by unfold rtV; rw [h]; rfl)
        rw [bl_of, h] at HSg
        rw [← HLe.out] at HSg HV
        clear h
        go_wp2_with fail
        refine (HSg.out _).mono ?_
        rintro e w4 ⟨rfl, hb⟩
        have HB4 := Lib.hid (HB2.out.trans (hb.mono HB2.out.size))
        clear hb
        go_wp2
        (first | go_ret | go_ret2)
        exact ⟨by rw [HV.out]; rfl, HB4.out⟩
theorem readTrace_no1 (a : Option Addr) (g c : Nat) (l : List Int) (x : Int) (a0 a1 : Addr) (w : World) (hs : SrcV w a g (intz l)) (hl : l.length ≤ 1048576) (hS : Sent w a0 a1) (h : traceZ l = false) :
    Calls Tryd.prog 9 #[.slice a l.length c, .int .i64 x] w fun e w' => e = .returned (.tuple #[.string ByteArray.empty, .bool false]) ∧ Below w.heap.size w w' := by
  have F := Lib.hid (readTr_no1 a g c l x a0 a1 w hs hl hS h)
  clear hs hS h
  go_enter Tryd.func9, Tryd.ntmps9
  go_wp2_with fail
  refine F.out.mono ?_
  rintro e w1 ⟨rfl, hb⟩
  have HB := Lib.hid hb
  clear hb
  go_wp2
  go_quiet (fail)
  go_wp2
  (first | go_ret | go_ret2)
  exact ⟨rfl, HB.out.trans ⟨rfl, rfl, rfl, Nat.le_refl _, fun _ _ => rfl⟩⟩
theorem readTrace_no2 (a : Option Addr) (g c : Nat) (l : List Int) (x : Int) (a0 a1 : Addr) (w : World) (hs : SrcV w a g (intz l)) (hl : l.length ≤ 1048576) (hS : Sent w a0 a1) (h : traceZ l = true) (h2 : okUnit x = false) :
    Calls Tryd.prog 9 #[.slice a l.length c, .int .i64 x] w fun e w' => e = .returned (.tuple #[.string ByteArray.empty, .bool false]) ∧ Below w.heap.size w w' := by
  have F := Lib.hid (readTr_no2 a g c l x a0 a1 w hs hl hS h h2)
  clear hs hS h
  go_enter Tryd.func9, Tryd.ntmps9
  go_wp2_with fail
  refine F.out.mono ?_
  rintro e w1 ⟨rfl, hb⟩
  have HB := Lib.hid hb
  clear hb
  go_wp2
  go_quiet (fail)
  go_wp2
  (first | go_ret | go_ret2)
  exact ⟨rfl, HB.out.trans ⟨rfl, rfl, rfl, Nat.le_refl _, fun _ _ => rfl⟩⟩
theorem readTrace_yes (a : Option Addr) (g c : Nat) (m : List Nat) (u : Nat) (a0 a1 : Addr) (w : World) (hs : SrcV w a g (ints m)) (hm : IsTr m) (hu0 : 1 ≤ u) (hu : u ≤ 99) (hS : Sent w a0 a1) :
    Calls Tryd.prog 9 #[.slice a m.length c, .int .i64 u] w fun e w' => e = .returned (.tuple #[.string (rdOut m u).1, .bool (rdOut m u).2]) ∧ Below w.heap.size w w' := by
  have F := Lib.hid (readTr_yes a g c m u a0 a1 w hs hm hu0 hu hS)
  clear hs hS
  cases h : (pieces (rdL m u)).isSome
  · have HV : Hid (rdOut m u = (ByteArray.empty, false) ∧ rtV m u a0 = (ByteArray.empty, .iface 118 (.pointer (some a0)))) := Lib.hid (by unfold rdOut rtV; rw [h]; exact ⟨rfl, rfl⟩)
    rw [HV.out.2] at F
    rw [HV.out.1]
    clear h
    go_enter Tryd.func9, Tryd.ntmps9
    go_wp2_with fail
    refine F.out.mono ?_
    rintro e w1 ⟨rfl, hb⟩
    have HB := Lib.hid hb
    clear hb
    go_wp2
    go_quiet (fail)
    go_wp2
    (first | go_ret | go_ret2)
    exact ⟨rfl, HB.out.trans ⟨rfl, rfl, rfl, Nat.le_refl _, fun _ _ => rfl⟩⟩
  · have HV : Hid (rdOut m u = (⟨(rdL m u).toArray⟩, true) ∧ rtV m u a0 = (⟨(rdL m u).toArray⟩, .nilIface)) := Lib.hid (by unfold rdOut rtV; rw [h]; exact ⟨rfl, rfl⟩)
    rw [HV.out.2] at F
    rw [HV.out.1]
    clear h
    go_enter Tryd.func9, Tryd.ntmps9
    go_wp2_with fail
    refine F.out.mono ?_
    rintro e w1 ⟨rfl, hb⟩
    have HB := Lib.hid hb
    clear hb
    go_wp2
    go_quiet (fail)
    go_wp2
    (first | go_ret | go_ret2)
    exact ⟨rfl, HB.out.trans ⟨rfl, rfl, rfl, Nat.le_refl _, fun _ _ => rfl⟩⟩
theorem readTrace_both (l : List Int) (x : Int) (hl : l.length ≤ 1048576) (hi : InI l) (wx : (Lit.int .i64 x).wf = true) : ∃ (R0 : ByteArray) (R1 : Bool),
    Hid (∀ W a g c, SrcV W a g (intz l) → Calls Tryd.prog 7 #[.slice a l.length c, .int .i64 x] W fun e W' => e = .returned (.tuple #[.string R0, .bool R1]) ∧ Below W.heap.size W W') ∧
    Hid (∀ W a g c, SrcV W a g (intz l) → ∀ a0 a1, Sent W a0 a1 → Calls Tryd.prog 9 #[.slice a l.length c, .int .i64 x] W fun e W' => e = .returned (.tuple #[.string R0, .bool R1]) ∧ Below W.heap.size W W') := by
  cases h : traceZ l
  · exact ⟨_, _, fun W a g c hs => sReadTrace_no1 a g c l x W hs hl h, fun W a g c hs a0 a1 hS => readTrace_no1 a g c l x a0 a1 W hs hl hS h⟩
  · cases h2 : okUnit x
    · exact ⟨_, _, fun W a g c hs => sReadTrace_no2 a g c l x W hs hl h h2, fun W a g c hs a0 a1 hS => readTrace_no2 a g c l x a0 a1 W hs hl hS h h2⟩
    · obtain ⟨m, rfl, hm⟩ := traceZ_nat h
      obtain ⟨u, rfl, hu0, hu⟩ := okUnit_nat h2
      rw [zs_len, zs_ints]
      exact ⟨_, _, fun W a g c hs => sReadTrace_yes a g c m u W hs hm hu0 hu, fun W a g c hs a0 a1 hS => readTrace_yes a g c m u a0 a1 W hs hm hu0 hu hS⟩
end Go.Proofs.YtgfmcpipbmnagaaDoor
