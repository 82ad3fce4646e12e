/-
  slices.Max at a list of numbers, LeastEnd of the program. Used by the claim on LeastEnd.
-/
import Derived.Test.YtiialbnfgichhaaLoB
import Derived.Test.YtiialbnfgichhaaLeL
import Derived.Deep.RegionHeld3
namespace Go.Proofs.Ytiialbnfgichhaa
open Go.RowKit
set_option linter.unusedVariables false
set_option maxHeartbeats 2000000 in
theorem maxI_any (a : Option Addr) (g c : Nat) (y : List Nat) (w : World) (hs : SrcV w a g (ints y)) (h0 : 0 < y.length) (hl : y.length ≤ 1000) :
    Calls Try.prog 86 #[.slice a y.length c] w fun e w' => e = .returned (.int .i64 ((mxTo y 0 y.length : Nat) : Int)) ∧ w' = w := by
  obtain rfl := hs.1 (by rw [ints_len]; exact h0)
  have HS := Lib.hid hs.2
  have d0 := hs.2 0 _ (ints_at h0)
  have HF := Lib.hid (mxTo_first h0)
  have e0 : y.getD 0 0 = y[0] := by rw [List.getD_eq_getElem?_getD, List.getElem?_eq_getElem h0]; rfl
  rw [e0] at HF
  clear hs e0
  generalize y[0] = x0 at d0 HF
  have i2 : ¬ ((y.length : Nat) : Int) < 1 := by omega
  have i3 : (0 : Int) < (y.length : Int) := by omega
  go_enter Try.func86, Try.ntmps86
  go_wp2
  go_loopw [3, 4] (fun mv v wr => ∃ k : Nat, v = .int .i64 (k : Int) ∧ 1 ≤ k ∧ k ≤ y.length ∧ mv = .int .i64 ((mxTo y 0 k : Nat) : Int) ∧ wr = w) (fun _ v _ => y.length - (intOf v).toNat)
  case atStart => exact ⟨1, rfl, Nat.le_refl _, h0, by rw [HF.out], rfl⟩
  case round =>
    obtain ⟨k, rfl, hk1, hk, rfl, hwr⟩ := hrel
    subst hwr
    clear d0
    by_cases hlt : k < y.length
    · have d1 := HS.out k _ (ints_at hlt)
      have e1 : y.getD k 0 = y[k] := by rw [List.getD_eq_getElem?_getD, List.getElem?_eq_getElem hlt]; rfl
      have HN : Hid (mxTo y 0 (k + 1) = max (mxTo y 0 k) y[k]) := Lib.hid (by show max (mxTo y 0 k) (y.getD k 0) = _; rw [e1])
      clear e1
      generalize y[k] = x at d1 HN
      generalize mxTo y 0 k = m at HN ⊢
      have i0 : (0 : Int) ≤ (k : Int) := by omega
      have i1 : (k : Int) < (y.length : Int) := by omega
      by_cases hc : (x : Int) ≤ (m : Int)
      · have HM : Hid (mxTo y 0 (k + 1) = m) := Lib.hid (by rw [HN.out]; omega)
        go_wp2
        go_roundw
        case rel => exact ⟨k + 1, by go_num, by omega, by omega, by rw [HM.out], by trivial⟩
        case measure => simp [intOf]; omega
      · have HM : Hid (mxTo y 0 (k + 1) = x) := Lib.hid (by rw [HN.out]; omega)
        go_wp2
        go_roundw
        case rel => exact ⟨k + 1, by go_num, by omega, by omega, by rw [HM.out], by trivial⟩
        case measure => simp [intOf]; omega
    · obtain rfl : k = y.length := by omega
      go_wp2
      go_ret
      exact ⟨rfl, by trivial⟩
def leR (n : Int) (l : List Jb) : Nat := if goodJ n l then leastE n.toNat l else 0
def LeOut (n : Int) (l : List Jb) (W : World) (e : Ending) (W' : World) : Prop := e = .returned (.tuple #[.int .i64 ((leR n l : Nat) : Int), .bool (goodJ n l)]) ∧ Below W.heap.size W W'
set_option maxHeartbeats 8000000 in
set_option maxRecDepth 20000 in
theorem leastP_any (n : Int) (a : Option Addr) (g c : Nat) (l : List Jb) (w : World) (hs : SrcV w a g (jbs l)) (hl : l.length ≤ 1048576) :
    Calls Try.prog 43 #[.int .i64 n, .slice a l.length c] w (LeOut n l w) := by
  have F1 := Lib.hid (loadsP_any n a g c l w hs hl)
  have HS := Lib.hid fun W hb => hs.below (w' := W) hb
  have HX := Lib.hid hs.1
  clear hs
  by_cases hgd : goodJ n l = true
  rotate_left
  · have h2 : goodJ n l = false := by simpa using hgd
    have HR : Hid (leR n l = 0) := Lib.hid (by unfold leR; rw [if_neg hgd])
    have HR2 : Hid (ldR n l = []) := Lib.hid (by unfold ldR; rw [if_neg hgd])
    unfold LeOut
    rw [HR.out, h2]
    rw [HR2.out, h2] at F1
    clear hgd h2
    go_enter Try.func43, Try.ntmps43
    go_wp2_with fail
    refine F1.out.mono ?_
    rintro e w1 ⟨a1, g1, c1, rfl, _, _, _, hb⟩
    have HB := Lib.hid hb
    clear hb
    go_wp2
    go_ret2
    exact ⟨rfl, HB.out⟩
  have hv := goodJ_iff.1 hgd
  obtain ⟨m, hm⟩ : ∃ m : Nat, n = (m : Int) := ⟨n.toNat, by have := hv.n0; omega⟩
  have HR : Hid (leR n l = leTo l (mxTo (loads m l) 0 (loads m l).length) l.length) := Lib.hid (by unfold leR; rw [if_pos hgd, hm, Int.toNat_natCast, loads_len]; rfl)
  have HR2 : Hid (ldR n l = loads m l) := Lib.hid (by unfold ldR; rw [if_pos hgd, hm, Int.toNat_natCast])
  unfold LeOut
  rw [HR.out, hgd]
  rw [HR2.out, hgd] at F1
  have hy0 : 0 < (loads m l).length := by rw [loads_len]; have := hv.n0; omega
  have hy1 : (loads m l).length ≤ 1000 := by rw [loads_len]; have := hv.n1; omega
  have hb0 : mxTo (loads m l) 0 (loads m l).length ≤ 3000 := mxTo_le (Nat.zero_le _) (loads_le hv m) _
  have l5 := hv.len
  have HLe := Lib.hid fun i (hi : i ≤ l.length) => leTo_le hv hb0 (by omega) i hi
  have HJe := Lib.hid fun (i : Nat) (hi : i < l.length) => jobEnd_eq (jobV_at hv hi) hv.n1
  have HSt := Lib.hid fun (i : Nat) (hi : i < l.length) W => steps_any n (jAt l i) (jobV_at hv hi) hv.n1 W
  clear hgd hv hm
  have HMx := Lib.hid fun a1 g1 c1 W (hs : SrcV W a1 g1 (ints (loads m l))) => maxI_any a1 g1 c1 (loads m l) W hs hy0 hy1
  generalize mxTo (loads m l) 0 (loads m l).length = b at *
  generalize loads m l = y at *
  go_enter Try.func43, Try.ntmps43
  go_wp2_with fail
  refine F1.out.mono ?_
  rintro e w1 ⟨a1, g1, c1, rfl, hs1, _, _, hb⟩
  have HB := Lib.hid hb
  have HM1 := Lib.hid (HMx.out a1 g1 c1 w1 hs1)
  clear hb hs1 HMx
  go_wp2_with fail
  refine HM1.out.mono ?_
  rintro e w2 ⟨rfl, hww⟩
  obtain rfl := hww.symm
  clear HM1
  go_wp2_with fail
  go_loopw [8, 23] (fun mv v wr => ∃ i : Nat, v = .int .i64 (i : Int) ∧ i ≤ l.length ∧ mv = .int .i64 ((leTo l b i : Nat) : Int) ∧ Hid (Below w.heap.size w wr)) (fun _ v _ => l.length - (intOf v).toNat)
  case atStart => exact ⟨0, rfl, Nat.zero_le _, rfl, HB⟩
  case round =>
    obtain ⟨i, rfl, hi, rfl, HBw⟩ := hrel
    by_cases hlt : i < l.length
    rotate_left
    · obtain rfl : i = l.length := by omega
      go_wp2
      go_ret2
      exact ⟨rfl, HBw.out⟩
    obtain rfl := HX.out (by rw [jbs_len]; omega)
    obtain ⟨q0, q1, q2, q3⟩ := srcJ_at (HS.out wr HBw.out) hlt
    have e9 : l[i] = jAt l i := (jAt_nat hlt).symm
    rw [e9] at q0 q1 q2 q3
    clear e9
    have hje := HJe.out i hlt
    have hli := HLe.out i hi
    have HSi := Lib.hid (HSt.out i hlt)
    have HN : Hid (leTo l b (i + 1) = max (leTo l b i) (jobEnd (jAt l i))) := Lib.hid rfl
    generalize leTo l b i = m1 at HN hli ⊢
    generalize jobEnd (jAt l i) = je at HN hje
    generalize jAt l i = j at q0 q1 q2 q3 hje HSi
    obtain ⟨fr, to, sp, st⟩ := j
    dsimp only at q0 q1 q2 q3 hje HSi
    obtain ⟨h1, h2, h3, h4⟩ := hje
    generalize stp ⟨fr, to, sp, st⟩ = s at *
    generalize hp : s * sp = p at *
    have hst : st + p = (je : Int) := h1.symm
    have i0 : (0 : Int) ≤ (i : Int) := by omega
    have i1 : (i : Int) < (l.length : Int) := by omega
    have HT := Lib.hid (jbB_new 26 wr ⟨fr, to, sp, st⟩)
    have HB1 := Lib.hid (HBw.out.alloc HBw.out.size (.cells #[.int .i64 fr, .int .i64 to, .int .i64 sp, .int .i64 st] 26))
    obtain ⟨v1, v2⟩ := wrapI (x := p) (by omega) (by omega)
    have HV1 := Lib.hid (And.intro v1 v2)
    clear v1 v2
    obtain ⟨v3, v4⟩ := wrapI (x := (je : Int)) (by omega) (by omega)
    have HV2 := Lib.hid (And.intro v3 v4)
    clear v3 v4
    have hmx : (je : Int) ≤ (m1 : Int) ∨ ¬ (je : Int) ≤ (m1 : Int) := by omega
    have HMa : Hid ((je : Int) ≤ (m1 : Int) → leTo l b (i + 1) = m1) := Lib.hid (fun h => by rw [HN.out]; omega)
    have HMb : Hid (¬ (je : Int) ≤ (m1 : Int) → leTo l b (i + 1) = je) := Lib.hid (fun h => by rw [HN.out]; omega)
    clear h1 h2 h3 h4 hli
    have c0 := HT.out.cell0
    have c1 := HT.out.cell1
    have c2 := HT.out.cell2
    have c3 := HT.out.cell3
    go_wp2
    clear c0 c1 c2 c3 q0 q1 q2 q3
    generalize wr.heap.size = g9 at HT ⊢
    generalize wr.alloc (.cells #[.int .i64 fr, .int .i64 to, .int .i64 sp, .int .i64 st] 26) = W1 at HT HB1 ⊢
    have HBd : Hid (Below W1.heap.size W1 W1.drew) := Lib.hid (Below.refl W1.heap.size W1).drew
    have HQ : Hid (∀ W, Below W1.heap.size W1 W → W.cell? ⟨g9, 0, none⟩ = some (.int .i64 fr) ∧ W.cell? ⟨g9, 1, none⟩ = some (.int .i64 to) ∧ W.cell? ⟨g9, 2, none⟩ = some (.int .i64 sp) ∧ W.cell? ⟨g9, 3, none⟩ = some (.int .i64 st)) := Lib.hid fun W hb =>
      ⟨(HT.out.below hb).cell0, (HT.out.below hb).cell1, (HT.out.below hb).cell2, (HT.out.below hb).cell3⟩
    obtain ⟨v1, v2⟩ := HV1.out
    obtain ⟨v3, v4⟩ := HV2.out
    rcases hmx with hc | hc
    · have HM2 := Lib.hid (HMa.out hc)
      go_region_held3 (fun w' => w'.cell? ⟨g9, 0, none⟩ = some (.int .i64 fr) ∧ w'.cell? ⟨g9, 1, none⟩ = some (.int .i64 to) ∧ w'.cell? ⟨g9, 2, none⟩ = some (.int .i64 sp) ∧ w'.cell? ⟨g9, 3, none⟩ = some (.int .i64 st))
        (first
          | with_reducible exact HQ.out _ HBs.out
          | with_reducible exact HQ.out _ HBd.out)
        ((first
          | (go_at_call 65; with_reducible refine (HSi.out _).mono ?_; rintro e w4 ⟨rfl, hb⟩; have HBs : Hid (Below W1.heap.size W1 w4) := Lib.hid (HBd.out.trans (hb.mono HBd.out.size)); clear hb)
          | fail))
      clear v1 v2 v3 v4
      all_goals (
        go_wp2
        go_roundw
        case rel => exact ⟨i + 1, by go_num, by omega, by first | rw [HM2.out, if_neg (by omega)] | rw [HM2.out, if_pos (by omega)] | rw [HM2.out], Lib.hid (HB1.out.trans (HBs.out.mono HB1.out.size))⟩
        case measure => simp [intOf]; omega)
    · have HM2 := Lib.hid (HMb.out hc)
      go_region_held3 (fun w' => w'.cell? ⟨g9, 0, none⟩ = some (.int .i64 fr) ∧ w'.cell? ⟨g9, 1, none⟩ = some (.int .i64 to) ∧ w'.cell? ⟨g9, 2, none⟩ = some (.int .i64 sp) ∧ w'.cell? ⟨g9, 3, none⟩ = some (.int .i64 st))
        (first
          | with_reducible exact HQ.out _ HBs.out
          | with_reducible exact HQ.out _ HBd.out)
        ((first
          | (go_at_call 65; with_reducible refine (HSi.out _).mono ?_; rintro e w4 ⟨rfl, hb⟩; have HBs : Hid (Below W1.heap.size W1 w4) := Lib.hid (HBd.out.trans (hb.mono HBd.out.size)); clear hb)
          | fail))
      clear v1 v2 v3 v4
      all_goals (
        go_wp2
        go_roundw
        case rel => exact ⟨i + 1, by go_num, by omega, by first | rw [HM2.out, if_neg (by omega)] | rw [HM2.out, if_pos (by omega)] | rw [HM2.out], Lib.hid (HB1.out.trans (HBs.out.mono HB1.out.size))⟩
        case measure => simp [intOf]; omega)
end Go.Proofs.Ytiialbnfgichhaa
