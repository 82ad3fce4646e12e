/-
  l11Mean of the model. Used by the claims on chapter 11.
-/
import Derived.Test.YthkafalpjokfeaaMnW
namespace Go.Proofs.Ythkafalpjokfeaa
open Go.RowKit
set_option linter.unusedVariables false

set_option maxHeartbeats 4000000 in
set_option maxRecDepth 8000 in
theorem sMean_any (f : Nat → Nat) (xs : List ByteArray) (ns : List Nat) (a2 : Option Addr) (g2 c2 : Nat) (a1 : Option Addr) (g1 c1 : Nat) (l : List Int) (w : World) (ht : tableB xs = true) (hns : ns.length = xs.length) (hf : ∀ k (hk : k < ns.length), ns[k] = f k) (h19 : ∀ k, f k ≤ 19) (hs2 : SrcV w a2 g2 (ints ns)) (hs : SrcV w a1 g1 (intz l)) (hl : l.length ≤ 1048576) :
    Calls Try.prog 79 #[.slice a2 ns.length c2, .slice a1 l.length c1] w fun e w' => e = .returned (.tuple #[.agg #[.int .i64 (((mnR f xs l).1 : Nat) : Int), .int .i64 (((mnR f xs l).2 : Nat) : Int)], .bool (mnOk xs l)]) ∧ Below w.heap.size w w' := by
  have hn10 := ((tableB_iff xs).1 ht).1.2
  have F := Lib.hid fun W hb => sWeights_any a1 g1 c1 l W (hs.below (w' := W) hb) hl
  have HB0 := Lib.hid (below_alloc w (.cells #[.int .i64 0, .int .i64 0] 43))
  have HT0 := Lib.hid (two_new w 0 0)
  by_cases hfit : fitB xs l = true
  · obtain ⟨m, rfl, hm, _, hlen⟩ := fit_nat hfit
    have hw : wtB (zs m) = true := by
      simp only [fitB, Bool.and_eq_true] at hfit
      exact hfit.1.2
    have F2 := Lib.hid fun W hI => val_eq (v' := .bool true) (F.out W hI) (by rw [hw])
    have H19 := Lib.hid h19
    have H99 := Lib.hid fun k => uAt_le hm k
    have HF := Lib.hid hf
    have HS := Lib.hid fun W hb => hs.below (w' := W) hb
    have HS2 := Lib.hid fun W hb => hs2.below (w' := W) hb
    have HR := Lib.hid (mn_yes (f := f) hfit)
    have hm10 := hm.len
    have HN := Lib.hid (hlen.trans hns.symm)
    rw [zs_len] at F2 ⊢
    have hnl : ns.length = m.length := by omega
    rw [hnl]
    clear F hfit hw hm ht hlen hns hnl hf h19 hs hs2
    obtain ⟨n, hnn⟩ : ∃ n, n = m.length := ⟨_, rfl⟩
    have HLn := Lib.hid hnn
    rw [← hnn] at hm10 F2 ⊢
    clear hnn
    go_enter Try.func79, Try.ntmps79
    go_wp2_with fail
    with_reducible refine (F2.out _ HB0.out).mono ?_
    rintro e w1 ⟨rfl, hww⟩
    obtain rfl := hww.symm
    go_wp2
    go_loopw [6, 7, 8] (fun s u v wr => ∃ (k z y : Nat), v = .int .i64 k ∧ k ≤ n ∧ s = .int .i64 z ∧ z ≤ 1881 * k ∧ u = .int .i64 y ∧ y ≤ 99 * k ∧ Hid (z = cst (uAt m) f k) ∧ Hid (y = cst (uAt m) (fun _ => 1) k) ∧ Hid (Below w.heap.size w wr) ∧ Hid (Two wr w.heap.size 0 0)) (fun _ _ v _ => n - (intOf v).toNat)
    case atStart => exact ⟨0, 0, 0, rfl, Nat.zero_le _, rfl, by omega, rfl, by omega, Lib.hid rfl, Lib.hid rfl, HB0, HT0⟩
    case round =>
      obtain ⟨k, z, y, rfl, hk, rfl, hz2, rfl, hy2, HZ, HY, HB, HT⟩ := hrel
      by_cases hlt : k < n
      · have hkm : k < m.length := by rw [← HLn.out]; exact hlt
        have hkx : k < ns.length := by rw [← HN.out]; exact hkm
        obtain rfl := (HS.out wr HB.out).1 (by rw [intz_len, zs_len]; omega)
        obtain rfl := (HS2.out wr HB.out).1 (by rw [ints_len]; omega)
        have d1 := zs_src (HS.out wr HB.out) k hkm
        have d2 := (HS2.out wr HB.out).2 k _ (ints_at hkx)
        rw [HF.out k hkx] at d2
        have c1' := H99.out k
        have c2' := H19.out k
        have HC1 : Hid (cst (uAt m) f (k + 1) = z + uAt m k * f k) := Lib.hid (by rw [cst, HZ.out])
        have HC2 : Hid (cst (uAt m) (fun _ => 1) (k + 1) = y + uAt m k) := Lib.hid (by rw [cst, HY.out, Nat.mul_one])
        rw [uAt_eq hkm] at c1' HC1 HC2
        generalize m[k] = x at d1 c1' HC1 HC2
        generalize f k = q at d2 c2' HC1
        obtain ⟨p, hp, hp2, hpi⟩ := mul_small c1' c2'
        rw [Int.mul_comm] at hpi
        have HD1 : Hid (z + p = cst (uAt m) f (k + 1)) := Lib.hid (by rw [HC1.out, hp])
        have HD2 : Hid (y + x = cst (uAt m) (fun _ => 1) (k + 1)) := Lib.hid HC2.out.symm
        have q1 : z + p ≤ 1881 * (k + 1) := by omega
        have q2 : y + x ≤ 99 * (k + 1) := by omega
        have q3 : k + 1 ≤ n := by omega
        have q4 : z ≤ 40000 := by omega
        have q5 : p ≤ 40000 := by omega
        have q6 : y ≤ 40000 := by omega
        have q7 : x ≤ 40000 := by omega
        have i0 : (0 : Int) ≤ (k : Int) := by omega
        have i1 : (k : Int) < (n : Int) := by omega
        obtain ⟨e1, e2⟩ := wrap_small q5
        obtain ⟨e3, e4⟩ := wrap_sum q4 q5
        obtain ⟨e5, e6⟩ := wrap_sum q6 q7
        have HB2 : Hid (∀ q, Below w.heap.size w (wr.drewN q)) := Lib.hid fun q => below_dr HB.out q
        have HT2 : Hid (∀ q, Two (wr.drewN q) w.heap.size 0 0) := Lib.hid fun q => HT.out
        clear hp hkm c1' c2' hp2
        go_wp2
        go_quiet (fail)
        go_wp2
        clear e1 e2 e3 e4 e5 e6
        go_roundw
        case rel => exact ⟨k + 1, z + p, y + x, by go_num, q3, by go_num, q1, by go_num, q2, HD1, HD2, Lib.hid (HB2.out _), Lib.hid (HT2.out _)⟩
        case measure => simp [intOf]; omega
      · obtain rfl : k = n := by omega
        have HA : Hid (mnAll m = y) := Lib.hid (by unfold mnAll; rw [← HLn.out, HY.out])
        have HS3 : Hid (mnSum f m = z) := Lib.hid (by unfold mnSum; rw [← HLn.out, HZ.out])
        rcases Nat.eq_zero_or_pos y with h0 | h0
        · subst h0
          have hT := HT.out
          have f0 := hT.frozen 0
          have f1 := hT.frozen 1
          have k0 := hT.cell0
          have k1 := hT.cell1
          clear hT
          have HO : Hid (mnOk xs (zs m) = false) := Lib.hid (by rw [HR.out.1, HA.out]; rfl)
          have HP := Lib.hid (mn_no (f := f) HO.out)
          go_wp2
          refine bodyPost_ret (res_two rfl _ rfl ((HT.out.set0 _).set1 _)) rfl ?_
          exact ⟨by rw [HO.out, HP.out]; rfl, (HB.out.setCell (p := ⟨w.heap.size, 0, none⟩) (by simp) _).setCell (p := ⟨w.heap.size, 1, none⟩) (by simp) _⟩
        · have HO : Hid (mnOk xs (zs m) = true) := Lib.hid (by rw [HR.out.1, HA.out]; exact decide_eq_true h0)
          have HP : Hid (mnR f xs (zs m) = cutN z y) := Lib.hid (by rw [HR.out.2 (by rw [HA.out]; exact h0), HA.out, HS3.out])
          have t1 : ((y : Int) == 0) = false := by simp; omega
          have HY0 := Lib.hid h0
          have hz40 : z ≤ 40000 := by omega
          have hy40 : y ≤ 40000 := by omega
          clear HZ HY hz2 hy2
          go_wp2
          go_loopw [9, 10] (fun p q wr2 => ∃ (u v : Nat), p = .int .i64 u ∧ q = .int .i64 v ∧ u ≤ 40000 ∧ v ≤ 40000 ∧ Hid (Nat.gcd u v = Nat.gcd z y) ∧ Hid (Below w.heap.size w wr2) ∧ Hid (Two wr2 w.heap.size 0 0)) (fun _ q _ => (intOf q).toNat)
          case atStart => exact ⟨z, y, rfl, rfl, hz40, hy40, Lib.hid rfl, HB, HT⟩
          case round =>
            clear HB HT
            obtain ⟨u, v, rfl, rfl, hu, hv, HG, HB, HT⟩ := hrel
            rcases Nat.eq_zero_or_pos v with h0 | h0
            · have HE : Nat.gcd z y = u := by
                have e1 := HG.out
                rw [h0, Nat.gcd_zero_right] at e1
                exact e1.symm
              have hg := gcd_pos (a := z) HY0.out
              have x1 := cut_le1 z y
              have x2 := cut_le2 z y
              have d1 : Int.tdiv (z : Int) ((Nat.gcd z y : Nat) : Int) = (((cutN z y).1 : Nat) : Int) := tdiv_nat _ _
              have d2 : Int.tdiv (y : Int) ((Nat.gcd z y : Nat) : Int) = (((cutN z y).2 : Nat) : Int) := tdiv_nat _ _
              rw [HE] at d1 d2 hg
              obtain ⟨r1, hr1⟩ : ∃ x, x = (cutN z y).1 := ⟨_, rfl⟩
              obtain ⟨r2, hr2⟩ : ∃ x, x = (cutN z y).2 := ⟨_, rfl⟩
              rw [← hr1] at d1 x1
              rw [← hr2] at d2 x2
              have HV : Hid (mnR f xs (zs m) = (r1, r2)) := Lib.hid (by rw [HP.out, hr1, hr2])
              clear hr1 hr2
              have t0 : ¬ (0 : Int) < (v : Int) := by omega
              have t1 : ((u : Int) == 0) = false := by simp; omega
              have t3 : ¬ (u : Int) = 0 := by omega
              obtain ⟨m1, m2⟩ := wrap_nat r1 (by omega)
              obtain ⟨m3, m4⟩ := wrap_nat r2 (by omega)
              have f0 := HT.out.frozen 0
              have f1 := HT.out.frozen 1
              have k0 := HT.out.cell0
              have k1 := HT.out.cell1
              clear h0 HE hg x1 x2 hu hv hz40 hy40 hm10
              go_wp2
              go_region
              all_goals (
                go_wp2
                refine bodyPost_ret (res_two rfl _ rfl ((HT.out.set0 _).set1 _)) rfl ?_
                exact ⟨by rw [HO.out, HV.out]; rfl, ((HB.out.setCell (p := ⟨w.heap.size, 0, none⟩) (by simp) _).setCell (p := ⟨w.heap.size, 1, none⟩) (by simp) _).drew⟩)
            · have t1 : ((v : Int) == 0) = false := by simp; omega
              have t3 : ¬ (v : Int) = 0 := by omega
              have t0 : (0 : Int) < (v : Int) := by omega
              have t4 : Int.tmod (u : Int) (v : Int) = ((u % v : Nat) : Int) := by rw [Int.tmod_eq_emod_of_nonneg (by omega)]; rfl
              have hlt2 : u % v < v := Nat.mod_lt _ h0
              have HN2 : Hid (Nat.gcd v (u % v) = Nat.gcd z y) := Lib.hid (by rw [← HG.out, Nat.gcd_comm u v, Nat.gcd_rec v u, Nat.gcd_comm])
              generalize u % v = r at t4 hlt2 HN2
              have t5 : wrap64 (r : Int) = (r : Int) := IntWalk.wrap64_in _ (by omega)
              have t6 : IntKind.i64.wrap (r : Int) = (r : Int) := by rw [IntKind.wrap_i64]; omega
              go_wp2
              go_roundw
              case rel => exact ⟨v, r, rfl, rfl, hv, by omega, HN2, HB, HT⟩
              case measure => simp [intOf]; omega
  · have hf' : fitB xs l = false := by simpa using hfit
    have HO : Hid (mnOk xs l = false) := Lib.hid (by unfold mnOk; rw [hf']; rfl)
    have HP := Lib.hid (mn_no (f := f) HO.out)
    have hT := HT0.out
    have f0 := hT.frozen 0
    have f1 := hT.frozen 1
    have k0 := hT.cell0
    have k1 := hT.cell1
    rw [HO.out, HP.out]
    clear hT
    cases hw : wtB l with
    | false =>
      have F2 := Lib.hid fun W hI => val_eq (v' := .bool false) (F.out W hI) (by rw [hw])
      clear F hfit hf' hw hs hs2 hf h19 HO HP ht
      go_enter Try.func79, Try.ntmps79
      go_wp2_with fail
      with_reducible refine (F2.out _ HB0.out).mono ?_
      rintro e w1 ⟨rfl, hww⟩
      obtain rfl := hww.symm
      go_wp2
      refine bodyPost_ret (res_two rfl _ rfl HT0.out) rfl ?_
      exact ⟨rfl, HB0.out⟩
    | true =>
      have hne : l.length ≠ ns.length := fun e => by
        rw [hns] at e
        unfold fitB at hf'
        rw [ht, hw, decide_eq_true e] at hf'
        cases hf'
      have t1 : ((l.length : Int) == (ns.length : Int)) = false := beq_false_of_ne (by omega)
      have t2 : ((l.length : Int) != (ns.length : Int)) = true := by rw [bne, t1]; rfl
      have F2 := Lib.hid fun W hI => val_eq (v' := .bool true) (F.out W hI) (by rw [hw])
      clear F hfit hf' hw hs hs2 hf h19 HO HP ht hne hns
      go_enter Try.func79, Try.ntmps79
      go_wp2_with fail
      with_reducible refine (F2.out _ HB0.out).mono ?_
      rintro e w1 ⟨rfl, hww⟩
      obtain rfl := hww.symm
      go_wp2
      refine bodyPost_ret (res_two rfl _ rfl HT0.out) rfl ?_
      exact ⟨rfl, HB0.out⟩
end Go.Proofs.Ythkafalpjokfeaa
