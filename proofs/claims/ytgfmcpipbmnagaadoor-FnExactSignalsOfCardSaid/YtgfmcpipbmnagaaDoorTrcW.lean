/-
  IsTrace, the program's and the model's; units and lengths. Used by the claims on chapter 5.
-/
import Derived.Test.YtgfmcpipbmnagaaDoorIntW
import Derived.Test.YtgfmcpipbmnagaaDoorSignW
namespace Go.Proofs.YtgfmcpipbmnagaaDoor
open Go.RowKit
set_option linter.unusedVariables false

theorem val_eqT {P : Program} {f : FuncId} {args : Array Value} {w : World} {v v' : Value} {R : World → Prop} (h : Calls P f args w fun e w' => e = .returned v ∧ R w') (e : v = v') : Calls P f args w fun e w' => e = .returned v' ∧ R w' := e ▸ h
theorem isLen_any (x : Int) (w : World) : Calls Tryd.prog 61 #[.int .i64 x] w fun e w' => e = .returned (.bool (okLen x)) ∧ w' = w := by
  have HR : Hid (okLen x = (decide (1 ≤ x) && decide (x ≤ 999))) := Lib.hid rfl
  rw [HR.out]
  by_cases h1 : 1 ≤ x
  · by_cases h2 : x ≤ 999
    · rw [decide_eq_true h1, decide_eq_true h2]
      go_enter Tryd.func61, Tryd.ntmps61
      go_wp2
      go_ret
      exact ⟨rfl, rfl⟩
    · rw [decide_eq_true h1, decide_eq_false h2]
      go_enter Tryd.func61, Tryd.ntmps61
      go_wp2
      go_ret
      exact ⟨rfl, rfl⟩
  · rw [decide_eq_false h1, Bool.false_and]
    go_enter Tryd.func61, Tryd.ntmps61
    go_wp2
    go_ret
    exact ⟨rfl, rfl⟩
def okUnit (x : Int) : Bool := decide (1 ≤ x) && decide (x ≤ 99)
theorem okUnit_nat {x : Int} (h : okUnit x = true) : ∃ u : Nat, x = (u : Int) ∧ 1 ≤ u ∧ u ≤ 99 := by
  simp only [okUnit, Bool.and_eq_true, decide_eq_true_eq] at h
  exact ⟨x.toNat, by omega, by omega, by omega⟩
theorem isUnit_any (x : Int) (w : World) : Calls Tryd.prog 52 #[.int .i64 x] w fun e w' => e = .returned (.bool (okUnit x)) ∧ w' = w := by
  have HR : Hid (okUnit x = (decide (1 ≤ x) && decide (x ≤ 99))) := Lib.hid rfl
  rw [HR.out]
  by_cases h1 : 1 ≤ x
  · by_cases h2 : x ≤ 99
    · rw [decide_eq_true h1, decide_eq_true h2]
      go_enter Tryd.func52, Tryd.ntmps52
      go_wp2
      go_ret
      exact ⟨rfl, rfl⟩
    · rw [decide_eq_true h1, decide_eq_false h2]
      go_enter Tryd.func52, Tryd.ntmps52
      go_wp2
      go_ret
      exact ⟨rfl, rfl⟩
  · rw [decide_eq_false h1, Bool.false_and]
    go_enter Tryd.func52, Tryd.ntmps52
    go_wp2
    go_ret
    exact ⟨rfl, rfl⟩
theorem sUnit_at (x : Int) (w : World) : Calls Tryd.prog 40 #[.int .i64 x] w fun e w' => e = .returned (.bool (okUnit x)) ∧ w' = w := by
  have HI := Lib.hid fun w => in_any x 1 99 w
  go_enter Tryd.func40, Tryd.ntmps40
  go_wp2_with fail
  refine (HI.out _).mono ?_
  rintro e w' ⟨rfl, rfl⟩
  go_wp2
  go_ret
  exact ⟨rfl, rfl⟩
theorem odd_facts (n : Nat) (hn : n ≤ 1048576) : ∃ r : Nat, n % 2 = r ∧ r ≤ 1 ∧ Int.tmod (n : Int) 2 = (r : Int) ∧ wrap64 (r : Int) = (r : Int) ∧ IntKind.i64.wrap (r : Int) = (r : Int) := by
  refine ⟨n % 2, rfl, by omega, ?_, IntWalk.wrap64_in _ (by omega), by rw [IntKind.wrap_i64]; omega⟩
  rw [Int.tmod_eq_emod_of_nonneg (by omega)]
  omega
theorem traceZ_no {l : List Int} {k : Nat} (h : k < l.length) (hx : okLen l[k] = false) : traceZ l = false := by
  cases h2 : traceZ l
  · rfl
  · simp only [traceZ, Bool.and_eq_true, List.all_eq_true] at h2
    rw [h2.2.2 _ (List.getElem_mem h)] at hx
    cases hx
theorem traceZ_all {l : List Int} (h1 : l.length % 2 = 1) (h2 : l.length ≤ 143) (h : ∀ j (hj : j < l.length), okLen l[j] = true) : traceZ l = true := by
  simp only [traceZ, Bool.and_eq_true, decide_eq_true_eq, List.all_eq_true]
  refine ⟨h1, h2, fun x hx => ?_⟩
  obtain ⟨j, hj, rfl⟩ := List.getElem_of_mem hx
  exact h j hj
theorem isTrace_any (a : Option Addr) (g c : Nat) (l : List Int) (w : World) (hs : SrcV w a g (intz l)) (hl : l.length ≤ 1048576) :
    Calls Tryd.prog 36 #[.slice a l.length c] w fun e w' => e = .returned (.bool (traceZ l)) ∧ Below w.heap.size w w' := by
  have HX := Lib.hid hs.1
  have HC := Lib.hid hs.2
  obtain ⟨r, hr, hr1, t1, t2, t3⟩ := odd_facts l.length hl
  clear hs
  by_cases h0 : r = 0
  · have HR : Hid (traceZ l = false) := Lib.hid (by
      have : l.length % 2 ≠ 1 := by omega
      simp [traceZ, this])
    rw [HR.out]
    subst h0
    clear hr hr1
    go_enter Tryd.func36, Tryd.ntmps36
    go_wp2
    go_ret
    exact ⟨rfl, Below.refl _ _⟩
  · obtain rfl : r = 1 := by omega
    by_cases h2 : 143 < l.length
    · have HR : Hid (traceZ l = false) := Lib.hid (by
        have : ¬ l.length ≤ 143 := by omega
        simp [traceZ, this])
      rw [HR.out]
      have h3 : (143 : Int) < (l.length : Int) := by omega
      clear hr hr1 h0
      go_enter Tryd.func36, Tryd.ntmps36
      go_wp2
      go_ret
      exact ⟨rfl, Below.refl _ _⟩
    · have HO := Lib.hid hr
      have h3 : ¬ (143 : Int) < (l.length : Int) := by omega
      clear hr hr1 h0
      go_enter Tryd.func36, Tryd.ntmps36
      go_wp2
      go_loopw [16] (fun v wr => ∃ k : Nat, v = .int .i64 k ∧ k ≤ l.length ∧ wr = w ∧ Hid (∀ j (hj : j < l.length), j < k → okLen l[j] = true)) (fun v _ => l.length - (intOf v).toNat)
      case atStart => exact ⟨0, rfl, Nat.zero_le _, rfl, Lib.hid fun j _ hj => absurd hj (by omega)⟩
      case round =>
        obtain ⟨k, rfl, hk, rfl, HA⟩ := hrel
        by_cases hlt : k < l.length
        · obtain rfl := HX.out (by rw [intz_len]; omega)
          have d1 := HC.out k _ (intz_at hlt)
          have HT := Lib.hid fun w => isLen_any l[k] w
          have i0 : (0 : Int) ≤ (k : Int) := by omega
          have i1 : (k : Int) < (l.length : Int) := by omega
          cases hx : okLen l[k]
          · have HN := Lib.hid (traceZ_no hlt hx)
            rw [hx] at HT
            generalize l[k] = x at d1 HT
            clear hx
            go_wp2_with fail
            refine (HT.out _).mono ?_
            rintro e w' ⟨rfl, rfl⟩
            go_wp2
            go_ret
            exact ⟨by first | (rw [HN.out]; rfl) | rw [HN.out], Below.refl _ _⟩
          · have HN : Hid (∀ j (hj : j < l.length), j < k + 1 → okLen l[j] = true) := Lib.hid fun j hj hj2 => by
              by_cases e : j = k
              · subst e; exact hx
              · exact HA.out j hj (by omega)
            rw [hx] at HT
            generalize l[k] = x at d1 HT
            clear hx
            go_wp2_with fail
            refine (HT.out _).mono ?_
            rintro e w' ⟨rfl, rfl⟩
            go_wp2
            go_roundw
            case rel => exact ⟨k + 1, by go_num, by omega, by first | trivial | rfl, HN⟩
            case measure => simp [intOf]; omega
        · have HR : Hid (traceZ l = true) := Lib.hid (traceZ_all HO.out (by omega) fun j hj => HA.out j hj (by omega))
          go_wp2
          go_ret
          exact ⟨by first | (rw [HR.out]; rfl) | rw [HR.out], Below.refl _ _⟩
set_option maxHeartbeats 1000000 in
theorem sTrace_any (a : Option Addr) (g c : Nat) (l : List Int) (w : World) (hs : SrcV w a g (intz l)) (hl : l.length ≤ 1048576) :
    Calls Tryd.prog 39 #[.slice a l.length c] w fun e w' => e = .returned (.bool (traceZ l)) ∧ Below w.heap.size w w' := by
  have HX := Lib.hid hs.1
  have HC := Lib.hid hs.2
  obtain ⟨r, hr, hr1, t1, t2, t3⟩ := odd_facts l.length hl
  have HO := Lib.hid hr
  clear hs hr
  go_enter Tryd.func39, Tryd.ntmps39
  go_wp2
  go_loopw [3] (fun v wr => ∃ k : Nat, v = .int .i64 k ∧ k ≤ l.length ∧ k ≤ 144 ∧ wr = w ∧ Hid (∀ j (hj : j < l.length), j < k → okLen l[j] = true)) (fun v _ => l.length - (intOf v).toNat)
  case atStart => exact ⟨0, rfl, Nat.zero_le _, by omega, rfl, Lib.hid fun j _ hj => absurd hj (by omega)⟩
  case round =>
    obtain ⟨k, rfl, hk, hk2, rfl, HA⟩ := hrel
    by_cases hlt : k < l.length
    · have i0 : (0 : Int) ≤ (k : Int) := by omega
      have i1 : (k : Int) < (l.length : Int) := by omega
      by_cases h143 : (k : Int) ≤ 143
      · obtain rfl := HX.out (by rw [intz_len]; omega)
        have d1 := HC.out k _ (intz_at hlt)
        have HT := Lib.hid fun w => in_any l[k] 1 999 w
        have HTv : Hid ((decide (1 ≤ l[k]) && decide (l[k] ≤ 999)) = okLen l[k]) := Lib.hid rfl
        cases hx : okLen l[k]
        · have HN := Lib.hid (traceZ_no hlt hx)
          have HT2 := Lib.hid fun w => val_eqT (v' := .bool false) (HT.out w) (by rw [HTv.out, hx])
          clear HT HTv
          generalize l[k] = x at d1 HT2
          clear hx
          go_wp2_with fail
          refine (HT2.out _).mono ?_
          rintro e w' ⟨rfl, rfl⟩
          go_wp2
          go_ret
          exact ⟨by first | (rw [HN.out]; rfl) | rw [HN.out], Below.refl _ _⟩
        · have HN : Hid (∀ j (hj : j < l.length), j < k + 1 → okLen l[j] = true) := Lib.hid fun j hj hj2 => by
            by_cases e : j = k
            · subst e; exact hx
            · exact HA.out j hj (by omega)
          have HT2 := Lib.hid fun w => val_eqT (v' := .bool true) (HT.out w) (by rw [HTv.out, hx])
          clear HT HTv
          generalize l[k] = x at d1 HT2
          clear hx
          go_wp2_with fail
          refine (HT2.out _).mono ?_
          rintro e w' ⟨rfl, rfl⟩
          go_wp2
          go_roundw
          case rel => exact ⟨k + 1, by go_num, by omega, by omega, by first | trivial | rfl, HN⟩
          case measure => simp [intOf]; omega
      · have h4 : ¬ (l.length : Int) ≤ 143 := by omega
        have HR : Hid (traceZ l = false) := Lib.hid (by
          have : ¬ l.length ≤ 143 := by omega
          simp [traceZ, this])
        rcases (show r = 0 ∨ r = 1 by omega) with e | e
        · subst e
          go_wp2
          go_ret
          exact ⟨by first | (rw [HR.out]; rfl) | rw [HR.out], Below.refl _ _⟩
        · subst e
          go_wp2
          go_ret
          exact ⟨by first | (rw [HR.out]; rfl) | rw [HR.out], Below.refl _ _⟩
    · have i1 : ¬ (k : Int) < (l.length : Int) := by omega
      rcases (show r = 0 ∨ r = 1 by omega) with e | e
      · subst e
        have HR : Hid (traceZ l = false) := Lib.hid (by
          have h1 := HO.out
          simp [traceZ, h1])
        go_wp2
        go_ret
        exact ⟨by first | (rw [HR.out]; rfl) | rw [HR.out], Below.refl _ _⟩
      · subst e
        by_cases h4 : (l.length : Int) ≤ 143
        · have HR : Hid (traceZ l = true) := Lib.hid (traceZ_all HO.out (by omega) fun j hj => HA.out j hj (by omega))
          go_wp2
          go_ret
          exact ⟨by first | (rw [HR.out]; rfl) | rw [HR.out], Below.refl _ _⟩
        · have HR : Hid (traceZ l = false) := Lib.hid (by
            have : ¬ l.length ≤ 143 := by omega
            simp [traceZ, this])
          go_wp2
          go_ret
          exact ⟨by first | (rw [HR.out]; rfl) | rw [HR.out], Below.refl _ _⟩
theorem sIsTrace_any (a : Option Addr) (g c : Nat) (l : List Int) (w : World) (hs : SrcV w a g (intz l)) (hl : l.length ≤ 1048576) :
    Calls Tryd.prog 37 #[.slice a l.length c] w fun e w' => e = .returned (.bool (traceZ l)) ∧ Below w.heap.size w w' := by
  have F := Lib.hid (sTrace_any a g c l w hs hl)
  clear hs
  go_enter Tryd.func37, Tryd.ntmps37
  go_wp2_with fail
  refine F.out.mono ?_
  rintro e w1 ⟨rfl, hb⟩
  have HB := Lib.hid hb
  clear hb
  go_wp2
  (first | go_ret | go_ret2)
  exact ⟨rfl, HB.out⟩
theorem isTrace_both (l : List Int) (hl : l.length ≤ 1048576) (hi : InI l) : ∃ R0 : Bool,
    Hid (∀ W a g c, SrcV W a g (intz l) → Calls Tryd.prog 37 #[.slice a l.length c] W fun e W' => e = .returned (.bool R0) ∧ Below W.heap.size W W') ∧
    Hid (∀ W a g c, SrcV W a g (intz l) → Calls Tryd.prog 36 #[.slice a l.length c] W fun e W' => e = .returned (.bool R0) ∧ Below W.heap.size W W') :=
  ⟨_, fun W a g c hs => sIsTrace_any a g c l W hs hl, fun W a g c hs => isTrace_any a g c l W hs hl⟩
end Go.Proofs.YtgfmcpipbmnagaaDoor
