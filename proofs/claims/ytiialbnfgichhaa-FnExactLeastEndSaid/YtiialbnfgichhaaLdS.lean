/-
  LoadsOf of the model. Used by the claims on LoadsOf and LeastEnd.
-/
import Derived.Test.YtiialbnfgichhaaLdW
import Derived.StillTailTactics
namespace Go.Proofs.Ytiialbnfgichhaa
open Go.RowKit
set_option linter.unusedVariables false
structure LS (a : Option Addr) (g : Nat) (l : List Jb) (R m : Nat) (w W : World) (f : Nat → Nat) : Prop where
  js : SrcV W a g (jbs l)
  row : W.rowIs R 3 m (fun j => .int .i64 (f j : Int))
  below : Below w.heap.size w W
  ng : 0 < l.length → R ≠ g
  low : w.heap.size ≤ R
theorem LS.step {a : Option Addr} {g : Nat} {l : List Jb} {R m : Nat} {w W W' : World} {f : Nat → Nat} (h : LS a g l R m w W f) (hb : Below W.heap.size W W') : LS a g l R m w W' f :=
  ⟨h.js.below hb, h.row.of_block (hb.block _ h.row.lt), h.below.trans (hb.mono h.below.size), h.ng, h.low⟩
theorem LS.drew {a : Option Addr} {g : Nat} {l : List Jb} {R m : Nat} {w W : World} {f : Nat → Nat} (h : LS a g l R m w W f) : LS a g l R m w W.drew f := h.step (Below.refl W.heap.size W).drew
theorem LS.add {a : Option Addr} {g : Nat} {l : List Jb} {R m : Nat} {w W : World} {f : Nat → Nat} (h : LS a g l R m w W f) (s x : Nat) : LS a g l R m w (W.setCell ⟨R, s, none⟩ (.int .i64 ((f s + x : Nat) : Int))) (addAt f s x) :=
  ⟨srcV_setFar h.js (fun h0 => h.ng (by rw [jbs_len] at h0; omega)) _, (h.row.set s _).congr (fun i hi => by
      unfold addAt
      by_cases e : i = s
      · subst e; rw [if_pos rfl, if_pos rfl]
      · rw [if_neg e, if_neg e]), h.below.setCell (p := ⟨R, s, none⟩) h.low _, h.ng, h.low⟩
theorem LS.addI {a : Option Addr} {g : Nat} {l : List Jb} {R m : Nat} {w W : World} {f : Nat → Nat} (h : LS a g l R m w W f) (s x : Nat) : LS a g l R m w ((W.setCell ⟨R, s, none⟩ (.int .i64 ((f s : Int) + (x : Int)))).drew) (addAt f s x) := by
  have := (h.add s x).drew
  rwa [Int.natCast_add] at this
theorem wrapM (y x : Nat) (h : y + x ≤ 1000000) : wrap64 ((y : Int) + (x : Int)) = (y : Int) + (x : Int) ∧ IntKind.i64.wrap ((y : Int) + (x : Int)) = (y : Int) + (x : Int) :=
  ⟨IntWalk.wrap64_in _ (by omega), IntWalk.i64_in _ (by omega)⟩
set_option maxHeartbeats 8000000 in
set_option maxRecDepth 20000 in
theorem sLoads_any (m : Nat) (a : Option Addr) (g c : Nat) (l : List Jb) (w : World) (hs : SrcV w a g (jbs l)) (hv : JobsV (m : Int) l) :
    Calls Try.prog 82 #[.int .i64 (m : Int), .slice a l.length c] w fun e w' => (∃ R c', e = .returned (.slice (some ⟨R, 0, none⟩) m c') ∧ SrcV w' (some ⟨R, 0, none⟩) R (ints (loads m l)) ∧ w.heap.size ≤ R ∧ (∀ j, w'.frozen? ⟨R, j, none⟩ = false)) ∧ Below w.heap.size w w' := by
  have m6 : m ≤ 6 := by have := hv.n1; omega
  have l5 := hv.len
  have HX := Lib.hid hs.1
  have HStn := Lib.hid fun (i : Nat) (hi : i < l.length) (k : Nat) (hk : (k : Int) + 1 ≤ stp (jAt l i)) => stn_next (jAt l i) (jobV_at hv hi) hk
  have HSt := Lib.hid fun (i : Nat) (hi : i < l.length) (k : Nat) (hk : (k : Int) ≤ stp (jAt l i)) => stn_at (jobV_at hv hi) hk
  have HLe := Lib.hid (ldTo_le hv)
  have HKs := Lib.hid fun (i : Nat) (hi : i < l.length) => stp_pos (jobV_at hv hi)
  have HSp := Lib.hid fun (i : Nat) (hi : i < l.length) => (jobV_at hv hi)
  have hmk := run_make_row' (P := Try.prog) 32 3 (.int .i64 0) 8 Try.underlying32 infoIntI rfl .i64 .i64 m (by omega) (by omega)
  have HM0 := Lib.hid (show LS a g l w.heap.size m w (w.alloc (.cells (madeCells #[.int .i64 0] m) 3)) (ldTo l 0) from
    ⟨hs.below (below_alloc _ _), World.rowIs_made w (.int .i64 0) m 3, below_alloc _ _, fun h => by have := srcV_lt hs (by rw [jbs_len]; omega); omega, Nat.le_refl _⟩)
  clear hs hv
  go_enter Try.func82, Try.ntmps82
  go_wp2
  generalize w.alloc (.cells (madeCells #[.int .i64 0] m) 3) = W2 at HM0 ⊢
  generalize w.heap.size = B at HM0 ⊢
  clear hmk
  go_loopw [6] (fun v wr => ∃ i : Nat, v = .int .i64 (i : Int) ∧ i ≤ l.length ∧ Hid (LS a g l B m w wr (ldTo l i))) (fun v _ => l.length - (intOf v).toNat)
  case atStart => exact ⟨0, rfl, Nat.zero_le _, HM0⟩
  case round =>
    obtain ⟨i, rfl, hi, HM⟩ := hrel
    by_cases hlt : i < l.length
    rotate_left
    · obtain rfl : i = l.length := by omega
      go_wp2
      go_ret
      refine ⟨⟨B, m, rfl, ⟨fun _ => rfl, fun j v hv => ?_⟩, HM.out.low, fun j => HM.out.row.frozen j⟩, HM.out.below⟩
      have hj : j < m := by have := (List.getElem?_eq_some_iff.1 hv).1; rwa [ints_len, loads_len] at this
      rw [HM.out.row.cell hj, ← hv]
      simp [ints, loads, hj]
    obtain rfl := HX.out (by rw [jbs_len]; omega)
    obtain ⟨q0, q1, q2, q3⟩ := srcJ_at HM.out.js hlt
    have HSti := Lib.hid (HSt.out i hlt)
    have HStni := Lib.hid (HStn.out i hlt)
    have hki := HKs.out i hlt
    have HVi := Lib.hid (HSp.out i hlt)
    have HT := Lib.hid (show ldTo l (i + 1) = ldHop (jAt l i) (stp (jAt l i)).toNat (ldTo l i) from rfl)
    have HLi := Lib.hid fun q => HLe.out i (by omega) q
    have HF := Lib.hid fun W => sSteps_any m (jAt l i) (HSp.out i hlt) (by omega) W
    have e9 : l[i] = jAt l i := (jAt_nat hlt).symm
    have HCs : Hid (∀ W, SrcV W (some ⟨g, 0, none⟩) g (jbs l) → W.cell? ⟨g, i * 4, none⟩ = some (.int .i64 (jAt l i).fr) ∧ W.cell? ⟨g, i * 4 + 2, none⟩ = some (.int .i64 (jAt l i).sp)) := Lib.hid fun W h => by
      obtain ⟨z0, _, z2, _⟩ := srcJ_at h hlt
      rw [e9] at z0 z2
      exact ⟨z0, z2⟩
    rw [e9] at q0 q1 q2 q3
    clear e9
    generalize jAt l i = jb at q0 q1 q2 q3 HSti HStni hki HVi HT HF HCs
    obtain ⟨x, hx⟩ : ∃ x : Nat, jb.sp = (x : Int) := ⟨jb.sp.toNat, by have := HVi.out.sp0; omega⟩
    have hx60 : x ≤ 60 := by have := HVi.out.sp1; omega
    have hfr0 := HVi.out.fr0
    have hfr1 := HVi.out.fr1
    have hwy : -1 ≤ way jb ∧ way jb ≤ 1 := by unfold way; by_cases e : jb.fr < jb.to; rw [if_pos e]; omega; rw [if_neg e]; omega
    obtain ⟨K, hK⟩ : ∃ K : Nat, stp jb = (K : Int) := ⟨(stp jb).toNat, by omega⟩
    have hK6 : K ≤ 6 := by omega
    rw [hK] at HSti HStni HT HF
    rw [Int.toNat_natCast] at HT
    have HSx := Lib.hid hx
    rw [hx] at HCs q2 HF
    clear hki hK hx
    have i0 : (0 : Int) ≤ (i : Int) := by omega
    have i1 : (i : Int) < (l.length : Int) := by omega
    go_wp2_with fail
    refine (HF.out _).mono ?_
    rintro e w3 ⟨rfl, hb⟩
    have HM3 := Lib.hid (HM.out.step hb)
    clear hb q0 q1 q2 q3 HM HF
    go_wp2_with fail
    go_loopw [9] (fun v wr => ∃ k : Nat, v = .int .i64 (k : Int) ∧ k ≤ K ∧ Hid (LS (some ⟨g, 0, none⟩) g l B m w wr (ldHop jb k (ldTo l i)))) (fun v _ => K - (intOf v).toNat)
    case atStart => exact ⟨0, rfl, Nat.zero_le _, HM3⟩
    case round =>
      obtain ⟨k, rfl, hk, HD⟩ := hrel
      by_cases hkl : k < K
      rotate_left
      · obtain rfl : k = K := by omega
        go_wp2
        go_roundw
        case rel => exact ⟨i + 1, by go_num, by omega, by rw [HT.out]; exact HD⟩
        case measure => simp [intOf]; omega
      obtain ⟨z0, z2⟩ := HCs.out wr HD.out.js
      have ha := HSti.out k (by omega)
      have hb := HSti.out (k + 1) (by omega)
      have hn := HStni.out k (by omega)
      have HY := Lib.hid fun q => ldHop_le (j := jb) (by have := HSx.out; omega) HLi.out k q
      have HE : Hid (ldHop jb (k + 1) (ldTo l i) = addAt (addAt (ldHop jb k (ldTo l i)) (stn jb k) x) (stn jb (k + 1)) x) := Lib.hid (by
        have e : jb.sp.toNat = x := by rw [HSx.out, Int.toNat_natCast]
        show addAt (addAt (ldHop jb k (ldTo l i)) (stn jb k) jb.sp.toNat) (stn jb (k + 1)) jb.sp.toNat = _
        rw [e])
      have HYa := Lib.hid fun q => addAt_le (s := stn jb k) (x := x) HY.out hx60 q
      have hy0 := HY.out (stn jb k)
      have hy1 := HYa.out (stn jb (k + 1))
      have HA := Lib.hid (HD.out.addI (stn jb k) x)
      have HA2 := Lib.hid (HA.out.addI (stn jb (k + 1)) x)
      have hs1 := hb.2
      clear hb HY HYa
      generalize stn jb k = s0 at *
      generalize stn jb (k + 1) = s1 at *
      generalize hfk : ldHop jb k (ldTo l i) = fk at *
      clear hfk
      have r1 := HD.out.row.cell (i := s0) (by omega)
      have r2 := HD.out.row.frozen s0
      have r3 := HA.out.row.cell (i := s1) (by omega)
      have r4 := HA.out.row.frozen s1
      have z3 := (HCs.out _ HA.out.js).2
      generalize e0 : way jb * (k : Int) = p at *
      generalize way jb = wy at *
      generalize hfr : jb.fr = fr at *
      clear hfr
      obtain ⟨hfp, hs0⟩ := ha
      have hp : -10 ≤ p ∧ p ≤ 10 := by omega
      have hfp2 : fr + p = (s0 : Int) := hfp.symm
      have hn2 : (s0 : Int) + wy = (s1 : Int) := hn.symm
      have i2 : (0 : Int) ≤ (s0 : Int) := by omega
      have i3 : (s0 : Int) < (m : Int) := by omega
      have i4 : (0 : Int) ≤ (s1 : Int) := by omega
      have i5 : (s1 : Int) < (m : Int) := by omega
      clear hfp hn hs0 hs1
      generalize hy : fk s0 = y0 at r1 hy0 HA HA2 r3 r4 z3
      generalize hyy : addAt fk s0 x s1 = y1 at r3 hy1 HA2
      have HV := Lib.hid (wrapM y0 x (by omega))
      have HV3 := Lib.hid (wrapM y1 x (by omega))
      have HV5 : Hid (wrap64 ((s0 : Int) + wy) = (s1 : Int) ∧ IntKind.i64.wrap ((s0 : Int) + wy) = (s1 : Int)) := Lib.hid (by rw [hn2]; exact wrapI (by omega) (by omega))
      clear hy hyy hy0 hy1 hp
      go_wp2
      obtain ⟨v1, v2⟩ := HV.out
      go_still_tail 13, (by kernel_rfl)
      repeat still_step
      change wpList _ _ _ _ _ wr.drew
      clear v1 v2
      have x1 : wr.drew.cell? ⟨B, s0, none⟩ = some (.int .i64 (y0 : Int)) := r1
      have x2 : wr.drew.frozen? ⟨B, s0, none⟩ = false := r2
      go_wp2
      clear x1 x2 r1 r2
      generalize (wr.setCell ⟨B, s0, none⟩ (.int .i64 ((y0 : Int) + (x : Int)))).drew = W5 at HA HA2 r3 r4 z3 ⊢
      obtain ⟨v3, v4⟩ := HV3.out
      obtain ⟨v5, v6⟩ := HV5.out
      clear hn2 hfp2 e0
      go_still_tail 17, (by kernel_rfl)
      repeat still_step
      change wpList _ _ _ _ _ W5.drew
      clear v3 v4 v5 v6
      have x1 : W5.drew.cell? ⟨B, s1, none⟩ = some (.int .i64 (y1 : Int)) := r3
      have x2 : W5.drew.frozen? ⟨B, s1, none⟩ = false := r4
      go_wp2
      go_roundw
      case rel => exact ⟨k + 1, by go_num, by omega, by rw [HE.out]; exact HA2⟩
      case measure => simp [intOf]; omega
end Go.Proofs.Ytiialbnfgichhaa
