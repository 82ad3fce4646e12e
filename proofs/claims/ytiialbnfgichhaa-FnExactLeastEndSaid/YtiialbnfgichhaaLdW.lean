/-
  LoadsOf of the program. Used by the claims on LoadsOf and LeastEnd.
-/
import Derived.Test.YtiialbnfgichhaaHopW
import Derived.Test.YtiialbnfgichhaaJsW
import Derived.Test.YtiialbnfgichhaaLoadL
namespace Go.Proofs.Ytiialbnfgichhaa
open Go.RowKit
set_option linter.unusedVariables false
theorem wrapN (y x : Nat) (h : y + x ≤ 1000000) : wrap64 ((y : Int) + (x : Int)) = ((y + x : Nat) : Int) ∧ IntKind.i64.wrap ((y : Int) + (x : Int)) = ((y + x : Nat) : Int) :=
  ⟨by rw [IntWalk.wrap64_in _ (by omega)]; rfl, by rw [IntWalk.i64_in _ (by omega)]; rfl⟩
theorem srcV_setFar {W : World} {a : Option Addr} {g R i : Nat} {vs : List Value} (h : SrcV W a g vs) (hg : 0 < vs.length → R ≠ g) (v : Value) : SrcV (W.setCell ⟨R, i, none⟩ v) a g vs :=
  ⟨h.1, fun j x hx => by
    have hl : 0 < vs.length := by have := (List.getElem?_eq_some_iff.1 hx).1; omega
    rw [World.cell?_setCell_far _ _ _ _ (by show R ≠ g; exact hg hl)]
    exact h.2 j x hx⟩
theorem Brd.setFar {d : Bd} {W : World} (h : Brd d W) {R i : Nat} (hB : R ≠ d.B) (hg : 0 < d.l.length → R ≠ d.gj) (hp : 0 < d.ps.length → R ≠ d.gp) (v : Value) : Brd d (W.setCell ⟨R, i, none⟩ v) :=
  ⟨by rw [World.cell?_setCell_far _ _ _ _ (by show R ≠ d.B; exact hB)]; exact h.jc, by rw [World.cell?_setCell_far _ _ _ _ (by show R ≠ d.B; exact hB)]; exact h.pc,
    srcV_setFar h.js (fun h0 => hg (by rw [jbs_len] at h0; omega)) v, srcV_setFar h.hs (fun h0 => hp (by rw [hps_len] at h0; omega)) v⟩
/-- What lies in memory while loads are summed. -/
structure LM (d : Bd) (R m : Nat) (w W : World) (f : Nat → Nat) : Prop where
  brd : Brd d W
  row : W.rowIs R 3 m (fun j => .int .i64 (f j : Int))
  below : Below w.heap.size w W
  nB : R ≠ d.B
  ng : 0 < d.l.length → R ≠ d.gj
  np : d.ps = []
  low : w.heap.size ≤ R
theorem LM.step {d : Bd} {R m : Nat} {w W W' : World} {f : Nat → Nat} (h : LM d R m w W f) (hb : Below W.heap.size W W') : LM d R m w W' f :=
  ⟨h.brd.below hb, h.row.of_block (hb.block _ h.row.lt), h.below.trans (hb.mono h.below.size), h.nB, h.ng, h.np, h.low⟩
theorem LM.add {d : Bd} {R m : Nat} {w W : World} {f : Nat → Nat} (h : LM d R m w W f) (s x : Nat) : LM d R m w (W.setCell ⟨R, s, none⟩ (.int .i64 ((f s + x : Nat) : Int))) (addAt f s x) :=
  ⟨h.brd.setFar h.nB h.ng (by rw [h.np]; simp) _, (h.row.set s _).congr (fun i hi => by
      unfold addAt
      by_cases e : i = s
      · subst e; rw [if_pos rfl, if_pos rfl]
      · rw [if_neg e, if_neg e]), h.below.setCell (p := ⟨R, s, none⟩) h.low _, h.nB, h.ng, h.np, h.low⟩
/-- .. and beside it the job at hand and its hops. -/
structure LD (d : Bd) (R m : Nat) (w W : World) (f : Nat → Nat) (g9 x : Nat) (ah : Option Addr) (gh : Nat) (H : List Hp) : Prop where
  lm : LM d R m w W f
  sp : W.cell? ⟨g9, 2, none⟩ = some (.int .i64 (x : Int))
  ne9 : R ≠ g9
  hs : SrcV W ah gh (hps H)
  neh : 0 < (hps H).length → R ≠ gh
theorem LD.step {d : Bd} {R m : Nat} {w W W' : World} {f : Nat → Nat} {g9 x : Nat} {ah : Option Addr} {gh : Nat} {H : List Hp} (h : LD d R m w W f g9 x ah gh H) (hb : Below W.heap.size W W') : LD d R m w W' f g9 x ah gh H :=
  ⟨h.lm.step hb, cellB h.sp hb, h.ne9, h.hs.below hb, h.neh⟩
theorem LD.add {d : Bd} {R m : Nat} {w W : World} {f : Nat → Nat} {g9 x : Nat} {ah : Option Addr} {gh : Nat} {H : List Hp} (h : LD d R m w W f g9 x ah gh H) (s : Nat) : LD d R m w (W.setCell ⟨R, s, none⟩ (.int .i64 ((f s + x : Nat) : Int))) (addAt f s x) g9 x ah gh H :=
  ⟨h.lm.add s x, by rw [World.cell?_setCell_far _ _ _ _ (by show R ≠ g9; exact h.ne9)]; exact h.sp, h.ne9, srcV_setFar h.hs h.neh _, h.neh⟩
theorem LD.drew {d : Bd} {R m : Nat} {w W : World} {f : Nat → Nat} {g9 x : Nat} {ah : Option Addr} {gh : Nat} {H : List Hp} (h : LD d R m w W f g9 x ah gh H) : LD d R m w W.drew f g9 x ah gh H := h.step (Below.refl W.heap.size W).drew
def ldR (n : Int) (l : List Jb) : List Nat := if goodJ n l then loads n.toNat l else []
theorem ldR_len {n : Int} {l : List Jb} : (ldR n l).length ≤ 6 := by
  unfold ldR
  by_cases h : goodJ n l = true
  · rw [if_pos h, loads_len]; have := (goodJ_iff.1 h).n1; omega
  · rw [if_neg h]; simp

set_option maxHeartbeats 8000000 in
set_option maxRecDepth 20000 in
theorem loadsP_any (n : Int) (a : Option Addr) (g c : Nat) (l : List Jb) (w : World) (hs : SrcV w a g (jbs l)) (hl : l.length ≤ 1048576) :
    Calls Try.prog 40 #[.int .i64 n, .slice a l.length c] w (SeqOut (ints (ldR n l)) (ldR n l).length (goodJ n l) w) := by
  have F1 := Lib.hid (areJobs_any n a g c l w hs hl)
  by_cases hgd : goodJ n l = true
  rotate_left
  · have h2 : goodJ n l = false := by simpa using hgd
    have HR : Hid (ldR n l = []) := Lib.hid (by unfold ldR; rw [if_neg hgd])
    rw [HR.out, h2]
    rw [h2] at F1
    clear hgd h2 hs
    go_enter Try.func40, Try.ntmps40
    go_wp2_with fail
    refine F1.out.mono ?_
    rintro e w1 ⟨rfl, hb⟩
    have HB := Lib.hid hb
    clear hb
    go_wp2
    go_ret2
    exact seqOut_none HB.out
  have hv := goodJ_iff.1 hgd
  obtain ⟨m, hm⟩ : ∃ m : Nat, n = (m : Int) := ⟨n.toNat, by have := hv.n0; omega⟩
  have HR : Hid (ldR n l = loads m l) := Lib.hid (by unfold ldR; rw [if_pos hgd, hm, Int.toNat_natCast])
  rw [hgd] at F1
  rw [HR.out, hgd]
  have m0 : 2 ≤ m := by have := hv.n0; omega
  have m6 : m ≤ 6 := by have := hv.n1; omega
  have l5 := hv.len
  have HV := Lib.hid hv
  have HS := Lib.hid fun W hb => hs.below (w' := W) hb
  have HX := Lib.hid hs.1
  have HGl : Hid (0 < l.length → g < w.heap.size) := Lib.hid fun h => srcV_lt hs (by rw [jbs_len]; omega)
  have HSt := Lib.hid fun (i : Nat) (hi : i < l.length) (k : Nat) (hk : (k : Int) ≤ stp (jAt l i)) => stn_lt hm hv hi hk
  have HLe := Lib.hid (ldTo_le hv)
  have HKs := Lib.hid fun (i : Nat) (hi : i < l.length) => stp_pos (jobV_at hv hi)
  have HHp := Lib.hid fun (i : Nat) (hi : i < l.length) (k : Nat) (hk : (k : Int) + 1 ≤ stp (jAt l i)) => hop_stn (ps := []) hv hi hk
  have HSp := Lib.hid fun (i : Nat) (hi : i < l.length) => (jobV_at hv hi)
  subst hm
  have hmk := run_make_row' (P := Try.prog) 32 3 (.int .i64 0) 8 Try.underlying32 infoIntI rfl .i64 .i64 m (by omega) (by omega)
  clear hgd hv hs
  go_enter Try.func40, Try.ntmps40
  go_wp2_with fail
  refine F1.out.mono ?_
  rintro e w1 ⟨rfl, hb⟩
  have HM0 := Lib.hid (show LM ⟨w1.heap.size, a, g, c, l, none, 0, 0, []⟩ (w1.heap.size + 1) m w ((w1.alloc (.cells #[.slice a l.length c, .slice none 0 0] 85)).alloc (.cells (madeCells #[.int .i64 0] m) 3)) (ldTo l 0) from by
    have hsz := hb.size
    have e1 : (w1.alloc (.cells #[.slice a l.length c, .slice none 0 0] 85)).heap.size = w1.heap.size + 1 := by simp
    have hr := World.rowIs_made (w1.alloc (.cells #[.slice a l.length c, .slice none 0 0] 85)) (.int .i64 0) m 3
    rw [e1] at hr
    have hBB := below_alloc w1 (.cells #[.slice a l.length c, .slice none 0 0] 85)
    have hBA := below_alloc (w1.alloc (.cells #[.slice a l.length c, .slice none 0 0] 85)) (.cells (madeCells #[.int .i64 0] m) 3)
    have hW : Below w.heap.size w (w1.alloc (.cells #[.slice a l.length c, .slice none 0 0] 85)) := hb.trans (hBB.mono hsz)
    refine ⟨⟨cellB ?_ hBA, cellB ?_ hBA, (HS.out _ hW).below hBA, ⟨fun h => by simp [hps] at h, fun j x hx => by simp [hps] at hx⟩⟩, hr, hW.trans (hBA.mono (by simp; omega)), by show w1.heap.size + 1 ≠ w1.heap.size; omega, fun h => by have := HGl.out h; show w1.heap.size + 1 ≠ g; omega, rfl, by omega⟩
    · show (w1.alloc (.cells #[.slice a l.length c, .slice none 0 0] 85)).cell? ⟨w1.heap.size, 0, none⟩ = _; rw [World.cell?_alloc_new]; rfl
    · show (w1.alloc (.cells #[.slice a l.length c, .slice none 0 0] 85)).cell? ⟨w1.heap.size, 1, none⟩ = _; rw [World.cell?_alloc_new]; rfl)
  have hsz1 : w.heap.size ≤ w1.heap.size := hb.size
  clear hb
  go_wp2
  generalize (w1.alloc (.cells #[.slice a l.length c, .slice none 0 0] 85)).alloc (.cells (madeCells #[.int .i64 0] m) 3) = W2 at HM0 ⊢
  generalize w1.heap.size = B at HM0 hsz1 ⊢
  clear hmk
  go_loopw [24] (fun v wr => ∃ i : Nat, v = .int .i64 (i : Int) ∧ i ≤ l.length ∧ Hid (LM ⟨B, a, g, c, l, none, 0, 0, []⟩ (B + 1) m w wr (ldTo l i))) (fun v _ => l.length - (intOf v).toNat)
  case atStart => exact ⟨0, rfl, Nat.zero_le _, HM0⟩
  case round =>
    obtain ⟨i, rfl, hi, HM⟩ := hrel
    by_cases hlt : i < l.length
    rotate_left
    · obtain rfl : i = l.length := by omega
      go_wp2
      go_ret2
      refine ⟨some ⟨B + 1, 0, none⟩, B + 1, m, by rw [loads_len]; rfl, ⟨fun _ => rfl, fun j v hv => ?_⟩, fun _ => HM.out.low, fun j _ => HM.out.row.frozen j, HM.out.below⟩
      have hj : j < m := by have := (List.getElem?_eq_some_iff.1 hv).1; rwa [ints_len, loads_len] at this
      rw [HM.out.row.cell hj, ← hv]
      simp [ints, loads, hj]
    obtain rfl := HX.out (by rw [jbs_len]; omega)
    obtain ⟨q0, q1, q2, q3⟩ := HM.out.brd.at (k := i) hlt
    have HHi := Lib.hid (HHp.out i hlt)
    have HSti := Lib.hid (HSt.out i hlt)
    have hki := HKs.out i hlt
    have HVi := Lib.hid (HSp.out i hlt)
    have HT := Lib.hid (show ldTo l (i + 1) = ldHop (jAt l i) (stp (jAt l i)).toNat (ldTo l i) from rfl)
    have HLi := Lib.hid fun q => HLe.out i (by omega) q
    have e9 : (⟨B, some ⟨g, 0, none⟩, g, c, l, none, 0, 0, []⟩ : Bd).l[i] = jAt l i := (jAt_nat hlt).symm
    rw [e9] at q0 q1 q2 q3
    clear e9
    generalize hjb : jAt l i = jb at q0 q1 q2 q3 HHi HSti hki HVi HT
    have HJb := Lib.hid hjb
    clear hjb
    obtain ⟨x, hx⟩ : ∃ x : Nat, jb.sp = (x : Int) := ⟨jb.sp.toNat, by have := HVi.out.sp0; omega⟩
    have hx60 : x ≤ 60 := by have := HVi.out.sp1; omega
    obtain ⟨K, hK⟩ : ∃ K : Nat, stp jb = (K : Int) := ⟨(stp jb).toNat, by omega⟩
    have hK6 : K ≤ 6 := by omega
    rw [hK] at HHi HSti HT
    have HK := Lib.hid hK
    clear hK
    rw [Int.toNat_natCast] at HT
    have HH := Lib.hid fun W (hW : Brd ⟨B, some ⟨g, 0, none⟩, g, c, l, none, 0, 0, []⟩ W) => hopsOf_any ⟨B, some ⟨g, 0, none⟩, g, c, l, none, 0, 0, []⟩ m HV.out (fun o ho => by cases ho) (fun o ho => by cases ho) (by simp) i hlt W hW
    have i0 : (0 : Int) ≤ (i : Int) := by omega
    have i1 : (i : Int) < (l.length : Int) := by omega
    clear hki
    have HM1 := Lib.hid (HM.out.step (below_alloc wr (.cells #[.int .i64 jb.fr, .int .i64 jb.to, .int .i64 (x : Int), .int .i64 jb.st] 26)))
    have HJc : Hid ((wr.alloc (.cells #[.int .i64 jb.fr, .int .i64 jb.to, .int .i64 (x : Int), .int .i64 jb.st] 26)).cell? ⟨wr.heap.size, 2, none⟩ = some (.int .i64 (x : Int))) := Lib.hid (by rw [World.cell?_alloc_new]; rfl)
    have HBlt : Hid (B + 1 < wr.heap.size) := Lib.hid HM.out.row.lt
    go_wp2_with fail
    generalize wr.alloc (.cells #[.int .i64 jb.fr, .int .i64 jb.to, .int .i64 (x : Int), .int .i64 jb.st] 26) = W9 at HM1 HJc ⊢
    generalize wr.heap.size = g9 at HJc HBlt ⊢
    refine (HH.out _ HM1.out.brd).mono ?_
    rintro e w3 ⟨⟨ah, gh, ch, rfl, hsh, hgh, hfh⟩, hb⟩
    have hHl : (hopsL l [] (i : Int)).length = K := by rw [hopsL_len, HJb.out, HK.out, Int.toNat_natCast]
    have HHk := Lib.hid fun (k : Nat) (hk : k < K) => (⟨(HHi.out k (by omega)).1, (HHi.out k (by omega)).2, freedV HV.out hlt (fun o ho => by cases ho) (by rw [HJb.out, HK.out]; omega)⟩ : (freed l [] (pre l [] i k)).fr = (stn jb k : Nat) ∧ nx l (freed l [] (pre l [] i k)) = (stn jb (k + 1) : Nat) ∧ HpV l (freed l [] (pre l [] i k)))
    have HHa := Lib.hid fun (k : Nat) (hk : k < (hopsL l [] (i : Int)).length) => hopsL_at hk
    have HD0 := Lib.hid (show LD ⟨B, some ⟨g, 0, none⟩, g, c, l, none, 0, 0, []⟩ (B + 1) m w w3 (ldHop jb 0 (ldTo l i)) g9 x ah gh (hopsL l [] (i : Int)) from
      ⟨HM1.out.step hb, cellB HJc.out hb, by have := HBlt.out; omega, hsh, fun h => by have h1 := (hgh h).1; have h2 := World.block_lt_of_cell? _ _ HJc.out; have := HBlt.out; simp at h2; omega⟩)
    have HXh := Lib.hid hsh.1
    clear hb hsh hgh hfh q0 q1 q2 q3 HM HM1 HJc HH HHi
    have HT2 : Hid (ldTo l (i + 1) = ldHop jb (hopsL l [] (i : Int)).length (ldTo l i)) := Lib.hid (by rw [HT.out, hHl])
    have HSx := Lib.hid hx
    generalize hopsL l [] (i : Int) = H at *
    go_wp2_with fail
    go_loopw [32] (fun v wr2 => ∃ k : Nat, v = .int .i64 (k : Int) ∧ k ≤ H.length ∧ Hid (LD ⟨B, some ⟨g, 0, none⟩, g, c, l, none, 0, 0, []⟩ (B + 1) m w wr2 (ldHop jb k (ldTo l i)) g9 x ah gh H)) (fun v _ => H.length - (intOf v).toNat)
    case atStart => exact ⟨0, rfl, Nat.zero_le _, HD0⟩
    case round =>
      obtain ⟨k, rfl, hk, HD⟩ := hrel
      by_cases hkl : k < H.length
      rotate_left
      · obtain rfl : k = H.length := by omega
        go_wp2
        go_roundw
        case rel => exact ⟨i + 1, by go_num, by omega, by rw [HT2.out]; exact Lib.hid HD.out.lm⟩
        case measure => simp [intOf]; omega
      obtain rfl := HXh.out (by rw [hps_len]; omega)
      have hkK : k < K := by omega
      obtain ⟨hf1, hf2, hf3⟩ := HHk.out k hkK
      have h0 := HSti.out k (by omega)
      have h1 := HSti.out (k + 1) (by omega)
      have HY := Lib.hid fun q => ldHop_le (j := jb) (by omega) HLi.out k q
      have HE : Hid (ldHop jb (k + 1) (ldTo l i) = addAt (addAt (ldHop jb k (ldTo l i)) (stn jb k) x) (stn jb (k + 1)) x) := Lib.hid (by
        have e : jb.sp.toNat = x := by rw [HSx.out, Int.toNat_natCast]
        show addAt (addAt (ldHop jb k (ldTo l i)) (stn jb k) jb.sp.toNat) (stn jb (k + 1)) jb.sp.toNat = _
        rw [e])
      have z0 := HD.out.hs.2 _ _ (hps_at hkl).1
      have z1 := HD.out.hs.2 _ _ (hps_at hkl).2.1
      have z2 := HD.out.hs.2 _ _ (hps_at hkl).2.2
      rw [HHa.out k hkl] at z0 z1 z2
      generalize freed l [] (pre l [] (i : Int) k) = f at z0 z1 z2 hf1 hf2 hf3
      have hSt := fun W (hW : Brd ⟨B, some ⟨g, 0, none⟩, g, c, l, none, 0, 0, []⟩ W) => stations_any ⟨B, some ⟨g, 0, none⟩, g, c, l, none, 0, 0, []⟩ m HV.out f hf3 W hW
      obtain ⟨f0, f1, f2⟩ := f
      dsimp only at hf1 z0 z1 z2 hSt
      rw [hf2] at hSt
      subst hf1
      have HSn := Lib.hid hSt
      clear hSt hf2 hf3
      have HYa := Lib.hid fun q => addAt_le (s := stn jb k) (x := x) HY.out hx60 q
      generalize stn jb k = s0 at *
      generalize stn jb (k + 1) = s1 at *
      generalize ldHop jb k (ldTo l i) = fk at *
      have hs0 := h0
      have hs1 := h1
      have HY0 := Lib.hid (HY.out s0)
      have HY1 := Lib.hid (HYa.out s1)
      have i4 : (0 : Int) ≤ (k : Int) := by omega
      have i5 : (k : Int) < (H.length : Int) := by omega
      have HD1 := Lib.hid (HD.out.step (below_alloc wr (.cells #[.int .i64 f0, .int .i64 (s0 : Int), .int .i64 f2] 89)))
      go_wp2_with fail
      refine (HSn.out _ HD1.out.lm.brd).mono ?_
      rintro e w4 ⟨rfl, hb⟩
      have HD2 := Lib.hid (HD1.out.step hb)
      clear hb z0 z1 z2 HD HD1 HY HYa
      go_wp2_with fail
      go_loopw [38] (fun v wr3 => (v = .int .i64 0 ∧ Hid (LD ⟨B, some ⟨g, 0, none⟩, g, c, l, none, 0, 0, []⟩ (B + 1) m w wr3 fk g9 x (some ⟨gh, 0, none⟩) gh H)) ∨ (v = .int .i64 1 ∧ Hid (LD ⟨B, some ⟨g, 0, none⟩, g, c, l, none, 0, 0, []⟩ (B + 1) m w wr3 (addAt fk s0 x) g9 x (some ⟨gh, 0, none⟩) gh H)) ∨ (v = .int .i64 2 ∧ Hid (LD ⟨B, some ⟨g, 0, none⟩, g, c, l, none, 0, 0, []⟩ (B + 1) m w wr3 (addAt (addAt fk s0 x) s1 x) g9 x (some ⟨gh, 0, none⟩) gh H))) (fun v _ => 2 - (intOf v).toNat)
      case atStart => exact Or.inl ⟨rfl, HD2⟩
      case round =>
        clear HD2
        rcases hrel with ⟨rfl, HZ⟩ | ⟨rfl, HZ⟩ | ⟨rfl, HZ⟩
        · have c5 := HZ.out.lm.row.cell (i := s0) hs0
          have c6 := HZ.out.lm.row.frozen s0
          have c7 := HZ.out.sp
          have hyb := HY0.out
          have HN := Lib.hid (HZ.out.add s0)
          generalize hy : fk s0 = y at c5 hyb HN
          clear hy
          have i2 : (0 : Int) ≤ (s0 : Int) := by omega
          have i3 : (s0 : Int) < (m : Int) := by omega
          obtain ⟨v1, v2⟩ := wrapN y x (by omega)
          have hI := idx0 (s0 : Int) (s1 : Int) wr
          clear hyb
          go_wp2
          go_region
          clear v1 v2
          all_goals (
            go_wp2
            go_roundw
            case rel => exact Or.inr (Or.inl ⟨rfl, Lib.hid HN.out.drew⟩)
            case measure => simp [intOf])
        · have c5 := HZ.out.lm.row.cell (i := s1) hs1
          have c6 := HZ.out.lm.row.frozen s1
          have c7 := HZ.out.sp
          have hyb := HY1.out
          have HN := Lib.hid (HZ.out.add s1)
          generalize hy : addAt fk s0 x s1 = y at c5 hyb HN
          clear hy
          have i2 : (0 : Int) ≤ (s1 : Int) := by omega
          have i3 : (s1 : Int) < (m : Int) := by omega
          obtain ⟨v1, v2⟩ := wrapN y x (by omega)
          have hI := idx1 (s0 : Int) (s1 : Int) wr
          clear hyb
          go_wp2
          go_region
          clear v1 v2
          all_goals (
            go_wp2
            go_roundw
            case rel => exact Or.inr (Or.inr ⟨rfl, Lib.hid HN.out.drew⟩)
            case measure => simp [intOf])
        · go_wp2
          go_roundw
          case rel => exact ⟨k + 1, by go_num, by omega, by rw [HE.out]; exact HZ⟩
          case measure => simp [intOf]; omega
end Go.Proofs.Ytiialbnfgichhaa
