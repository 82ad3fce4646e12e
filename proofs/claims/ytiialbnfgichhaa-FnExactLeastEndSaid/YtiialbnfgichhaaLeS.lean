/-
  LeastEnd of the model; both alike. Used by the claim on LeastEnd.
-/
import Derived.Test.YtiialbnfgichhaaLeW
namespace Go.Proofs.Ytiialbnfgichhaa
open Go.RowKit
set_option linter.unusedVariables false
theorem most_any (x y : Nat) (w : World) : Calls Try.prog 85 #[.int .i64 (x : Int), .int .i64 (y : Int)] w fun e w' => e = .returned (.int .i64 ((max x y : Nat) : Int)) ∧ w' = w := by
  by_cases h : (y : Int) < (x : Int)
  · have HD : Hid (max x y = x) := Lib.hid (by omega)
    rw [HD.out]
    go_enter Try.func85, Try.ntmps85
    go_wp2
    go_ret
    exact ⟨rfl, rfl⟩
  · have HD : Hid (max x y = y) := Lib.hid (by omega)
    rw [HD.out]
    go_enter Try.func85, Try.ntmps85
    go_wp2
    go_ret
    exact ⟨rfl, rfl⟩
set_option maxHeartbeats 8000000 in
set_option maxRecDepth 20000 in
theorem sLeast_any (n : Int) (a : Option Addr) (g c : Nat) (l : List Jb) (w : World) (hs : SrcV w a g (jbs l)) (hl : l.length ≤ 1048576) :
    Calls Try.prog 42 #[.int .i64 n, .slice a l.length c] w (LeOut n l w) := by
  have F1 := Lib.hid (sGoodJ_any n a g c l w hs hl)
  have HS := Lib.hid fun W hb => hs.below (w' := W) hb
  have HX := Lib.hid hs.1
  by_cases hgd : goodJ n l = true
  rotate_left
  · have h2 : goodJ n l = false := by simpa using hgd
    have HR : Hid (leR n l = 0) := Lib.hid (by unfold leR; rw [if_neg hgd])
    unfold LeOut
    rw [HR.out, h2]
    rw [h2] at F1
    clear hgd h2 hs
    go_enter Try.func42, Try.ntmps42
    go_wp2_with fail
    refine F1.out.mono ?_
    rintro e w1 ⟨rfl, hb⟩
    have HB := Lib.hid hb
    clear hb
    go_wp2
    go_ret2
    exact ⟨rfl, HB.out⟩
  have hv := goodJ_iff.1 hgd
  obtain ⟨m, hm⟩ : ∃ m : Nat, n = (m : Int) := ⟨n.toNat, by have := hv.n0; omega⟩
  have HR : Hid (leR n l = leTo l (mxTo (loads m l) 0 m) l.length) := Lib.hid (by unfold leR; rw [if_pos hgd, hm, Int.toNat_natCast]; rfl)
  unfold LeOut
  rw [HR.out, hgd]
  rw [hgd] at F1
  subst hm
  have HLd := Lib.hid fun W hb => sLoads_any m a g c l W (hs.below (w' := W) hb) hv
  have hy0 := loads_len m l
  have hmb := Lib.hid (mxTo_le (Nat.zero_le 3000) (loads_le hv m))
  have hb0 := hmb.out m
  have l5 := hv.len
  have m6 : m ≤ 6 := by have := hv.n1; omega
  have HLe := Lib.hid fun i (hi : i ≤ l.length) => leTo_le hv hb0 (by omega) i hi
  have HJe := Lib.hid fun (i : Nat) (hi : i < l.length) => jobEnd_eq (jobV_at hv hi) hv.n1
  have HSt := Lib.hid fun (i : Nat) (hi : i < l.length) W => sSteps_any m (jAt l i) (jobV_at hv hi) hv.n1 W
  clear hgd hv hs
  generalize hb : mxTo (loads m l) 0 m = b at *
  have HBe := Lib.hid hb
  clear hb
  generalize loads m l = y at *
  go_enter Try.func42, Try.ntmps42
  go_wp2_with fail
  refine F1.out.mono ?_
  rintro e w1 ⟨rfl, hb⟩
  have HB := Lib.hid hb
  clear hb
  go_wp2_with fail
  refine (HLd.out _ HB.out).mono ?_
  rintro e w2 ⟨⟨R, c', rfl, hsr, hR, hf⟩, hb⟩
  have HB2 := Lib.hid (HB.out.trans (hb.mono HB.out.size))
  have HQ := Lib.hid hsr.2
  clear hb hsr hR hf HLd
  go_wp2
  go_loopw [6, 8] (fun mv v wr => ∃ k : Nat, v = .int .i64 (k : Int) ∧ k ≤ m ∧ mv = .int .i64 ((mxTo y 0 k : Nat) : Int) ∧ wr = w2) (fun _ v _ => m - (intOf v).toNat)
  case atStart => exact ⟨0, rfl, Nat.zero_le _, rfl, rfl⟩
  case round =>
    obtain ⟨k, rfl, hk, rfl, hwr⟩ := hrel
    subst hwr
    by_cases hlt : k < m
    · have d1 := HQ.out k _ (ints_at (by omega))
      have e1 : y.getD k 0 = y[k] := by rw [List.getD_eq_getElem?_getD, List.getElem?_eq_getElem (by omega)]; rfl
      have HN : Hid (mxTo y 0 (k + 1) = max (mxTo y 0 k) y[k]) := Lib.hid (by show max (mxTo y 0 k) (y.getD k 0) = _; rw [e1])
      clear e1
      generalize y[k] = x at d1 HN
      generalize mxTo y 0 k = mk at HN ⊢
      have HMo := Lib.hid fun W => most_any mk x W
      have i0 : (0 : Int) ≤ (k : Int) := by omega
      have i1 : (k : Int) < (m : Int) := by omega
      go_wp2_with fail
      refine (HMo.out _).mono ?_
      rintro e w5 ⟨rfl, hww⟩
      obtain rfl := hww.symm
      go_wp2
      go_roundw
      case rel => exact ⟨k + 1, by go_num, by omega, by rw [HN.out], by trivial⟩
      case measure => simp [intOf]; omega
    obtain rfl : k = m := by omega
    rw [HBe.out]
    go_wp2
    go_loopw [6, 9] (fun mv v wr => ∃ i : Nat, v = .int .i64 (i : Int) ∧ i ≤ l.length ∧ mv = .int .i64 ((leTo l b i : Nat) : Int) ∧ Hid (Below w.heap.size w wr)) (fun _ v _ => l.length - (intOf v).toNat)
    case atStart => exact ⟨0, rfl, Nat.zero_le _, rfl, HB2⟩
    case round =>
      obtain ⟨i, rfl, hi, rfl, HBw⟩ := hrel
      by_cases hlt : i < l.length
      rotate_left
      · obtain rfl : i = l.length := by omega
        go_wp2
        go_ret2
        exact ⟨rfl, HBw.out⟩
      obtain rfl := HX.out (by rw [jbs_len]; omega)
      obtain ⟨q0, q1, q2, q3⟩ := srcJ_at (HS.out wr HBw.out) hlt
      have HCs : Hid (∀ W, Below w.heap.size w W → W.cell? ⟨g, i * 4 + 2, none⟩ = some (.int .i64 (jAt l i).sp) ∧ W.cell? ⟨g, i * 4 + 3, none⟩ = some (.int .i64 (jAt l i).st)) := Lib.hid fun W h => by
        obtain ⟨_, _, z2, z3⟩ := srcJ_at (HS.out W h) hlt
        rw [← jAt_nat hlt] at z2 z3
        exact ⟨z2, z3⟩
      have e9 : l[i] = jAt l i := (jAt_nat hlt).symm
      rw [e9] at q0 q1 q2 q3
      clear e9
      have hje := HJe.out i hlt
      have hli := HLe.out i hi
      have HSi := Lib.hid (HSt.out i hlt)
      have HN : Hid (leTo l b (i + 1) = max (leTo l b i) (jobEnd (jAt l i))) := Lib.hid rfl
      generalize leTo l b i = m1 at HN hli ⊢
      generalize jobEnd (jAt l i) = je at HN hje
      generalize jAt l i = j at q0 q1 q2 q3 hje HSi HCs
      obtain ⟨fr, to, sp, st⟩ := j
      dsimp only at q0 q1 q2 q3 hje HSi HCs
      obtain ⟨h1, h2, h3, h4⟩ := hje
      generalize stp ⟨fr, to, sp, st⟩ = s at *
      generalize way ⟨fr, to, sp, st⟩ = wy at *
      generalize hp : s * sp = p at *
      have hst : st + p = (je : Int) := h1.symm
      have i0 : (0 : Int) ≤ (i : Int) := by omega
      have i1 : (i : Int) < (l.length : Int) := by omega
      have HMo := Lib.hid fun W => most_any m1 je W
      obtain ⟨v1, v2⟩ := wrapI (x := p) (by omega) (by omega)
      have HV1 := Lib.hid (And.intro v1 v2)
      clear v1 v2
      obtain ⟨v3, v4⟩ := wrapI (x := (je : Int)) (by omega) (by omega)
      have HV2 := Lib.hid (And.intro v3 v4)
      clear v3 v4 h1 h2 h3 h4 hli
      go_wp2_with fail
      refine (HSi.out _).mono ?_
      rintro e w7 ⟨rfl, hb⟩
      have HB7 := Lib.hid (HBw.out.trans (hb.mono HBw.out.size))
      clear hb q0 q1 q2 q3
      obtain ⟨z2, z3⟩ := HCs.out _ HB7.out
      go_wp2
      obtain ⟨v1, v2⟩ := HV1.out
      obtain ⟨v3, v4⟩ := HV2.out
      go_quiet ((go_at_call 85; exact Calls.quiet_of_same (HMo.out _)))
      clear v1 v2 v3 v4
      go_wp2
      go_roundw
      case rel => exact ⟨i + 1, by go_num, by omega, by rw [HN.out], Lib.hid (below_drewP _ HB7.out)⟩
      case measure => simp [intOf]; omega
theorem leastEnd_both (n : Int) (l : List Jb) (hl : l.length ≤ 1048576) (hi : ∀ j ∈ l, JbIn j) (wn : (Lit.int .i64 n).wf = true) : ∃ (R0 : Int) (R1 : Bool),
    Hid (∀ W a g c, SrcV W a g (jbs l) → Calls Try.prog 42 #[.int .i64 n, .slice a l.length c] W fun e W' => e = .returned (.tuple #[.int .i64 R0, .bool R1]) ∧ Below W.heap.size W W') ∧
    Hid (∀ W a g c, SrcV W a g (jbs l) → Calls Try.prog 43 #[.int .i64 n, .slice a l.length c] W fun e W' => e = .returned (.tuple #[.int .i64 R0, .bool R1]) ∧ Below W.heap.size W W') :=
  ⟨_, _, Lib.hid fun W a g c hs => sLeast_any n a g c l W hs hl, Lib.hid fun W a g c hs => leastP_any n a g c l W hs hl⟩
end Go.Proofs.Ytiialbnfgichhaa
