/-
  l6Distance of the model: the mark distance, row by row. Used by the claims on chapter 6.
-/
import Derived.Test.YtgdiffdpjpkleaaDstW
namespace Go.Proofs.Ytgdiffdpjpkleaa
open Go.RowKit
set_option linter.unusedVariables false

theorem least_any (x y m : Int) (w : World) (h : m = min x y) : Calls Try.prog 119 #[.int .i64 x, .int .i64 y] w fun e w' => e = .returned (.int .i64 m) ∧ w' = w := by
  by_cases hxy : x < y
  · obtain rfl : m = x := by omega
    clear h
    go_enter Try.func119, Try.ntmps119
    go_wp2
    go_ret
    exact ⟨rfl, rfl⟩
  · obtain rfl : m = y := by omega
    clear h
    go_enter Try.func119, Try.ntmps119
    go_wp2
    go_ret
    exact ⟨rfl, rfl⟩
theorem one_plus (n : Nat) (h : n ≤ 1000) : IntKind.i64.wrap (1 + (n : Int)) = 1 + (n : Int) ∧ wrap64 (1 + (n : Int)) = 1 + (n : Int) :=
  ⟨IntWalk.i64_in _ (by omega), IntWalk.wrap64_in _ (by omega)⟩
theorem minus_one' (n : Nat) (h : n ≤ 1000) : IntKind.i64.wrap ((n : Int) + 1 - 1) = (n : Int) ∧ wrap64 ((n : Int) + 1 - 1) = (n : Int) ∧ IntKind.i64.wrap (n : Int) = (n : Int) ∧ wrap64 (n : Int) = (n : Int) := by
  have e : (n : Int) + 1 - 1 = (n : Int) := by omega
  rw [e]
  exact ⟨IntWalk.i64_in _ (by omega), IntWalk.wrap64_in _ (by omega), IntWalk.i64_in _ (by omega), IntWalk.wrap64_in _ (by omega)⟩

set_option maxHeartbeats 4000000 in
set_option maxRecDepth 8000 in
theorem sDistance_any (a b : ByteArray) (w : World) (ha : a.size ≤ 5) (hb : b.size ≤ 5) :
    Calls Try.prog 76 #[.string a, .string b] w fun e w' => e = .returned (.int .i64 ((dist (bl a) (bl b) : Nat) : Int)) ∧ Below w.heap.size w w' := by
  obtain ⟨i0, hi, hz0, hz1, hz2⟩ := info_parts infoI
  have M0 : Hid ((w.alloc (Obj.cells #[] 3)).ownsRow w.heap.size 3 1 (.slice (some ⟨w.heap.size, 0, none⟩) 0 0) 0 (ints [])) := Lib.hid
    (World.ownsRow_made (base := w.heap.size) (e := 3) (size := 1) w #[] 0 (Nat.le_refl _) (by unfold maxLen; omega) rfl)
  have HF := Lib.hid (rowD_full (bl a) (bl b))
  rw [bl_len, bl_len] at HF
  go_enter Try.func76, Try.ntmps76
  go_wp2
  go_loopw [5, 6] (fun pv v wr => ∃ k : Nat, v = .int .i64 k ∧ k ≤ b.size + 1 ∧ wr.ownsRow w.heap.size 3 1 pv k (ints (rowL (bl a) (bl b) 0 k)) ∧ Hid (Below w.heap.size w wr)) (fun _ v _ => b.size + 1 - (intOf v).toNat)
  case atStart => exact ⟨0, rfl, Nat.zero_le _, M0.out, Lib.hid (below_alloc _ _)⟩
  case round =>
    obtain ⟨k, rfl, hk, hown, HB⟩ := hrel
    obtain ⟨av, capv, rfl⟩ := row_form hown
    have hsz := HB.out.size
    by_cases hlt : k < b.size + 1
    · have hle1 : (k : Int) ≤ (b.size : Int) := by omega
      have HLt : Hid (∀ q, (Value.slice av k capv).ownBlock = some q → w.heap.size ≤ q ∧ q < wr.heap.size) := Lib.hid hown.lt
      have HE : Hid (rowD (bl a) (bl b) 0 k = k) := Lib.hid (rowD_zero _ _ _ (by rw [bl_len]; omega))
      go_wp2_with (at_builtin; refine wpList_append_lies _ rfl _ _ 29 rfl w.heap.size 3 i0 (.int .i64 0) 1 8 Try.underlying29 hi hz0 hz1 hz2 rfl (by decide) (.slice av k capv) k (ints (rowL (bl a) (bl b) 0 k)) rfl (hown.alloc _) ⟨wr.heap.size, 0, none⟩ 1 1 [.int .i64 (k : Int)] rfl rfl (cell_one_new _ _ _) (by simp [Value.oneCell']) (by omega) (by unfold maxLen; omega) (by omega) (by simp; omega) (wr.heap.size + 1) (by simp) ?_; intro gg capg w7 hown' hgrow hat hglt)
      have HW7 : Hid (w7.ownsRow w.heap.size 3 1 (.slice (some ⟨gg, 0, none⟩) (k + 1) capg) (k + 1) (ints (rowL (bl a) (bl b) 0 (k + 1)))) := Lib.hid (by rw [rowL_succ, ints_snoc, HE.out]; exact hown')
      have HB7 : Hid (Below w.heap.size w w7) := Lib.hid ((HB.out.alloc HB.out.size _).grown hgrow (by have := HB.out.size; simp; omega) (fun q e => (HLt.out q e).1))
      clear hown' hgrow hat hglt
      go_wp2
      all_goals (
        go_roundw
        case rel => exact ⟨k + 1, by go_num, by omega, HW7.out, HB7⟩
        case measure => simp [intOf]; omega)
    · obtain rfl : k = b.size + 1 := by omega
      have hle1 : ¬ ((b.size : Int) + 1 ≤ (b.size : Int)) := by omega
      have HE0 : Hid (ints (rowL (bl a) (bl b) 0 (b.size + 1)) = ints (rowL (bl a) (bl b) 0 (b.size + 1))) := Lib.hid rfl
      go_wp2
      go_loopw [5, 7] (fun pv v wr => ∃ i : Nat, v = .int .i64 ((i : Int) + 1) ∧ i ≤ a.size ∧ wr.ownsRow w.heap.size 3 1 pv (b.size + 1) (ints (rowL (bl a) (bl b) i (b.size + 1))) ∧ Hid (Below w.heap.size w wr)) (fun _ v _ => a.size + 1 - (intOf v).toNat)
      case atStart => exact ⟨0, rfl, Nat.zero_le _, hown, HB⟩
      case round =>
        clear hown hsz HB
        obtain ⟨i, rfl, hi', hown, HB⟩ := hrel
        obtain ⟨g, cap, hv, hsv, hg, hglt, hcap⟩ := seq_pos hown (Nat.succ_pos _)
        subst hv
        have hsz := HB.out.size
        have HG : Hid (g < wr.heap.size) := Lib.hid hglt
        have HV := Lib.hid hsv.2
        clear hsv hglt
        by_cases hlt : i < a.size
        · have HR := Lib.hid (row_one wr (.int .i64 ((i : Int) + 1)))
          have HE1 : Hid (rowD (bl a) (bl b) (i + 1) 0 = i + 1) := Lib.hid (rowD_first _ _ _ (by rw [bl_len]; omega))
          have HBn := Lib.hid (below_alloc wr (.cells #[.int .i64 ((i : Int) + 1)] 3))
          clear hown
          obtain ⟨W, hW⟩ : ∃ W : World, W = wr := ⟨_, rfl⟩
          rw [← hW] at HB HG HV HR HBn hsz ⊢
          clear hW
          go_wp2
          go_loopw [8, 9] (fun nv v wr2 => ∃ j : Nat, v = .int .i64 ((j : Int) + 1) ∧ j ≤ b.size ∧ wr2.ownsRow W.heap.size 3 1 nv (j + 1) (ints (rowL (bl a) (bl b) (i + 1) (j + 1))) ∧ Hid (Below W.heap.size W wr2)) (fun _ v _ => b.size + 1 - (intOf v).toNat)
          case atStart => exact ⟨0, rfl, Nat.zero_le _, by rw [rowL_succ, HE1.out]; exact HR.out, HBn⟩
          case round =>
            obtain ⟨j, rfl, hj, hown2, HB2⟩ := hrel
            have hsz2 := HB2.out.size
            by_cases hltj : j < b.size
            · obtain ⟨q, capn, hnv, hsn, hq, hqlt, hcapn⟩ := seq_pos hown2 (Nat.succ_pos _)
              subst hnv
              have d1 := (HB2.out.cell (p := ⟨g, j, none⟩) HG.out).trans (HV.out j _ (ints_rowL (by omega)))
              have d2 := (HB2.out.cell (p := ⟨g, j + 1, none⟩) HG.out).trans (HV.out (j + 1) _ (ints_rowL (by omega)))
              have d3 := hsn.2 j _ (ints_rowL (Nat.lt_succ_self j))
              have HSt := Lib.hid (rowD_step (i := i) (j := j) (bl_get a hlt) (bl_get b hltj))
              have HRo := Lib.hid (rowL_succ (bl a) (bl b) (i + 1) (j + 1))
              have b1 := rowD_le (bl a) (bl b) i j
              have b2 := rowD_le (bl a) (bl b) i (j + 1)
              have b3 := rowD_le (bl a) (bl b) (i + 1) j
              have i1 : (0 : Int) ≤ (i : Int) := by omega
              have i2 : (i : Int) < (a.size : Int) := by omega
              have j1 : (0 : Int) ≤ (j : Int) := by omega
              have j2 : (j : Int) < (b.size : Int) := by omega
              generalize rowD (bl a) (bl b) i j = r1 at d1 HSt b1
              generalize rowD (bl a) (bl b) i (j + 1) = r2 at d2 HSt b2
              generalize rowD (bl a) (bl b) (i + 1) j = r3 at d3 HSt b3
              clear hsn
              have i3 : (i : Int) + 1 - 1 = (i : Int) := by omega
              have j7 : (j : Int) + 1 - 1 = (j : Int) := by omega
              have jle : (j : Int) + 1 ≤ (b.size : Int) := by omega
              by_cases hxy : a[i] = b[j]
              · have t1 : ((a[i].toNat : Int) != (b[j].toNat : Int)) = false := by rw [hxy]; simp
                have HS2 : Hid (rowD (bl a) (bl b) (i + 1) (j + 1) = min (min (r1) (r2 + 1)) (r3 + 1)) := Lib.hid (by rw [HSt.out, if_pos hxy]; rfl)
                clear hxy HSt
                go_wp2
                go_quiet (fail)
                go_wp2
                have p1 : j ≤ 1000 := by omega
                have j8 : (0 : Int) ≤ (j : Int) := by omega
                have j9 : (j : Int) + 1 - 1 = (j : Int) := by omega
                have p2 : r2 ≤ 1000 := by omega
                have p3 : r3 ≤ 1000 := by omega
                have j3 : (0 : Int) ≤ (j : Int) + 1 := by omega
                have j4 : (j : Int) + 1 < (b.size : Int) + 1 := by omega
                have j5 : ((j : Int) + 1).toNat = j + 1 := by omega
                have j6 : (j : Int) < (j : Int) + 1 := by omega
                obtain ⟨m1, hm1⟩ : ∃ m1 : Nat, m1 = min r2 r3 := ⟨_, rfl⟩
                obtain ⟨mm, hmm⟩ : ∃ mm : Nat, mm = min (r1) (1 + m1) := ⟨_, rfl⟩
                have HMm : mm = min (min (r1) (r2 + 1)) (r3 + 1) := by omega
                have HL1 := Lib.hid fun w => least_any (r2 : Int) (r3 : Int) (m1 : Int) w (by omega)
                have HL2 := Lib.hid fun w => least_any (r1 : Int) (1 + (m1 : Int)) (mm : Int) w (by omega)
                have p4 : m1 ≤ 1000 := by omega
                clear hm1 hmm
                obtain ⟨W2, hW2⟩ : ∃ W2 : World, W2 = wr.drewN nq := ⟨_, rfl⟩
                have e1 : W2.cell? ⟨g, j, none⟩ = some (.int .i64 (r1 : Int)) := by rw [hW2]; exact d1
                have e2 : W2.cell? ⟨g, j + 1, none⟩ = some (.int .i64 (r2 : Int)) := by rw [hW2]; exact d2
                have e3 : W2.cell? ⟨q, j, none⟩ = some (.int .i64 (r3 : Int)) := by rw [hW2]; exact d3
                have HO3 : Hid (W2.ownsRow W.heap.size 3 1 (.slice (some ⟨q, 0, none⟩) (j + 1) capn) (j + 1) (ints (rowL (bl a) (bl b) (i + 1) (j + 1)))) := Lib.hid (by rw [hW2]; exact hown2)
                have HB3 : Hid (Below W.heap.size W W2) := Lib.hid (by rw [hW2]; exact HB2.out.trans ((below_drewN wr nq).mono HB2.out.size))
                have HMm' : Hid (mm = rowD (bl a) (bl b) (i + 1) (j + 1)) := Lib.hid (by rw [HS2.out]; exact HMm)
                rw [← hW2]
                clear hW2 d1 d2 d3 hown2 HMm hsz2
                have hszW : W.heap.size ≤ W2.heap.size := HB3.out.size
                have q1 : j + 1 + 1 ≤ maxLen := by unfold maxLen; omega
                have q2 : (j + 1 + 1) * 8 ≤ 140737488355328 := by omega
                have HLd : Hid (∀ z, (Value.slice (some ⟨q, 0, none⟩) (j + 1) capn).ownBlock = some z → W.heap.size ≤ z) := Lib.hid (fun z e => (HO3.out.lt z e).1)
                have hown3 := HO3.out
                obtain ⟨k1, k2⟩ := plus_one j p1
                obtain ⟨k3, k4⟩ := plus_one r2 p2
                obtain ⟨k5, k6⟩ := one_plus m1 p4
                obtain ⟨k7, k8, k9, k0⟩ := minus_one' j p1
                go_region_law
                  ((first
                    | (refine step_append_lies _ (by rfl) _ _ _ (by rfl) W.heap.size 3 i0 _ 1 8 Try.underlying29 hi hz0 hz1 hz2 rfl (by decide) (.slice (some ⟨q, 0, none⟩) (j + 1) capn) (j + 1) (ints (rowL (bl a) (bl b) (i + 1) (j + 1))) (by rfl) ((hown3.alloc _).drew)
                          ⟨W2.heap.size, 0, none⟩ 1 1 [.int .i64 (mm : Int)] (by rfl) (by rfl) (World.news_of_block (cs := #[.int .i64 (mm : Int)]) (t := 3) (fr := (0, 0)) (heap_alloc_new W2 _)) (by simp [Value.oneCell'])
                          (by decide) q1 q2 (Nat.le_trans hszW (below_alloc W2 _).size) (W2.heap.size + 1) (by simp) ?_; intro gg capg w4 hown4 hgrow hat hglt)
                    | (go_simp; go_at_call 119; (with_reducible refine (HL1.out _).mono ?_); rintro e w' ⟨rfl, hww⟩; obtain rfl := hww.symm)
                    | (go_simp; go_at_call 119; (with_reducible refine (HL2.out _).mono ?_); rintro e w' ⟨rfl, hww⟩; obtain rfl := hww.symm)))
                all_goals (
                  have HW7 : Hid (w4.ownsRow W.heap.size 3 1 (.slice (some ⟨gg, 0, none⟩) (j + 1 + 1) capg) (j + 1 + 1) (ints (rowL (bl a) (bl b) (i + 1) (j + 1 + 1)))) := Lib.hid (by rw [HRo.out, ints_snoc, ← HMm'.out]; exact hown4)
                  have HB7 : Hid (Below W.heap.size W w4) := Lib.hid (by
                    have h1 : Below W.heap.size W ((W2.alloc (.cells #[.int .i64 (mm : Int)] 3)).drew) := (HB3.out.alloc HB3.out.size _).drew
                    exact h1.grown hgrow h1.size (fun q e => HLd.out q e))
                  clear hown4 hgrow hat hglt hown3
                  clear k1 k2 k3 k4 k5 k6 k7 k8 k9 k0 p1 p2 p3 p4 e1 e2 e3
                  go_wp2
                  go_roundw
                  case rel => exact ⟨j + 1, by omega, by omega, HW7.out⟩
                  case measure => simp [intOf]; omega)
              · have t1 : ((a[i].toNat : Int) != (b[j].toNat : Int)) = true := by exact bne_iff_ne.2 (fun e => hxy (UInt8.toNat_inj.1 (by omega)))
                have HS2 : Hid (rowD (bl a) (bl b) (i + 1) (j + 1) = min (min (r1 + 1) (r2 + 1)) (r3 + 1)) := Lib.hid (by rw [HSt.out, if_neg hxy])
                clear hxy HSt
                go_wp2
                go_quiet (fail)
                go_wp2
                have p1 : j ≤ 1000 := by omega
                have j8 : (0 : Int) ≤ (j : Int) := by omega
                have j9 : (j : Int) + 1 - 1 = (j : Int) := by omega
                have p2 : r2 ≤ 1000 := by omega
                have p3 : r3 ≤ 1000 := by omega
                have j3 : (0 : Int) ≤ (j : Int) + 1 := by omega
                have j4 : (j : Int) + 1 < (b.size : Int) + 1 := by omega
                have j5 : ((j : Int) + 1).toNat = j + 1 := by omega
                have j6 : (j : Int) < (j : Int) + 1 := by omega
                obtain ⟨m1, hm1⟩ : ∃ m1 : Nat, m1 = min r2 r3 := ⟨_, rfl⟩
                obtain ⟨mm, hmm⟩ : ∃ mm : Nat, mm = min ((r1) + 1) (1 + m1) := ⟨_, rfl⟩
                have HMm : mm = min (min ((r1) + 1) (r2 + 1)) (r3 + 1) := by omega
                have HL1 := Lib.hid fun w => least_any (r2 : Int) (r3 : Int) (m1 : Int) w (by omega)
                have HL2 := Lib.hid fun w => least_any ((r1 : Int) + 1) (1 + (m1 : Int)) (mm : Int) w (by omega)
                have p4 : m1 ≤ 1000 := by omega
                clear hm1 hmm
                obtain ⟨W2, hW2⟩ : ∃ W2 : World, W2 = wr.drewN nq := ⟨_, rfl⟩
                have e1 : W2.cell? ⟨g, j, none⟩ = some (.int .i64 (r1 : Int)) := by rw [hW2]; exact d1
                have e2 : W2.cell? ⟨g, j + 1, none⟩ = some (.int .i64 (r2 : Int)) := by rw [hW2]; exact d2
                have e3 : W2.cell? ⟨q, j, none⟩ = some (.int .i64 (r3 : Int)) := by rw [hW2]; exact d3
                have HO3 : Hid (W2.ownsRow W.heap.size 3 1 (.slice (some ⟨q, 0, none⟩) (j + 1) capn) (j + 1) (ints (rowL (bl a) (bl b) (i + 1) (j + 1)))) := Lib.hid (by rw [hW2]; exact hown2)
                have HB3 : Hid (Below W.heap.size W W2) := Lib.hid (by rw [hW2]; exact HB2.out.trans ((below_drewN wr nq).mono HB2.out.size))
                have HMm' : Hid (mm = rowD (bl a) (bl b) (i + 1) (j + 1)) := Lib.hid (by rw [HS2.out]; exact HMm)
                rw [← hW2]
                clear hW2 d1 d2 d3 hown2 HMm hsz2
                have hszW : W.heap.size ≤ W2.heap.size := HB3.out.size
                have q1 : j + 1 + 1 ≤ maxLen := by unfold maxLen; omega
                have q2 : (j + 1 + 1) * 8 ≤ 140737488355328 := by omega
                have HLd : Hid (∀ z, (Value.slice (some ⟨q, 0, none⟩) (j + 1) capn).ownBlock = some z → W.heap.size ≤ z) := Lib.hid (fun z e => (HO3.out.lt z e).1)
                have hown3 := HO3.out
                obtain ⟨k1, k2⟩ := plus_one j p1
                obtain ⟨k3, k4⟩ := plus_one r2 p2
                obtain ⟨k5, k6⟩ := one_plus m1 p4
                obtain ⟨k7, k8, k9, k0⟩ := minus_one' j p1
                go_region_law
                  ((first
                    | (refine step_append_lies _ (by rfl) _ _ _ (by rfl) W.heap.size 3 i0 _ 1 8 Try.underlying29 hi hz0 hz1 hz2 rfl (by decide) (.slice (some ⟨q, 0, none⟩) (j + 1) capn) (j + 1) (ints (rowL (bl a) (bl b) (i + 1) (j + 1))) (by rfl) ((hown3.alloc _).drew)
                          ⟨W2.heap.size, 0, none⟩ 1 1 [.int .i64 (mm : Int)] (by rfl) (by rfl) (World.news_of_block (cs := #[.int .i64 (mm : Int)]) (t := 3) (fr := (0, 0)) (heap_alloc_new W2 _)) (by simp [Value.oneCell'])
                          (by decide) q1 q2 (Nat.le_trans hszW (below_alloc W2 _).size) (W2.heap.size + 1) (by simp) ?_; intro gg capg w4 hown4 hgrow hat hglt)
                    | (go_simp; go_at_call 119; (with_reducible refine (HL1.out _).mono ?_); rintro e w' ⟨rfl, hww⟩; obtain rfl := hww.symm)
                    | (go_simp; go_at_call 119; (with_reducible refine (HL2.out _).mono ?_); rintro e w' ⟨rfl, hww⟩; obtain rfl := hww.symm)))
                all_goals (
                  have HW7 : Hid (w4.ownsRow W.heap.size 3 1 (.slice (some ⟨gg, 0, none⟩) (j + 1 + 1) capg) (j + 1 + 1) (ints (rowL (bl a) (bl b) (i + 1) (j + 1 + 1)))) := Lib.hid (by rw [HRo.out, ints_snoc, ← HMm'.out]; exact hown4)
                  have HB7 : Hid (Below W.heap.size W w4) := Lib.hid (by
                    have h1 : Below W.heap.size W ((W2.alloc (.cells #[.int .i64 (mm : Int)] 3)).drew) := (HB3.out.alloc HB3.out.size _).drew
                    exact h1.grown hgrow h1.size (fun q e => HLd.out q e))
                  clear hown4 hgrow hat hglt hown3
                  clear k1 k2 k3 k4 k5 k6 k7 k8 k9 k0 p1 p2 p3 p4 e1 e2 e3
                  go_wp2
                  go_roundw
                  case rel => exact ⟨j + 1, by omega, by omega, HW7.out⟩
                  case measure => simp [intOf]; omega)
            · obtain rfl : j = b.size := by omega
              have HWn : Hid (wr.ownsRow w.heap.size 3 1 u8 (b.size + 1) (ints (rowL (bl a) (bl b) (i + 1) (b.size + 1)))) := Lib.hid (row_mono hown2 hsz)
              have HBn2 : Hid (Below w.heap.size w wr) := Lib.hid (HB.out.trans (HB2.out.mono hsz))
              clear hown2
              go_wp2
              go_roundw
              case rel => exact ⟨i + 1, by go_num, by omega, HWn.out, HBn2⟩
              case measure => simp [intOf]; omega
        · obtain rfl : i = a.size := by omega
          have d1 := HV.out b.size _ (ints_rowL (by omega))
          rw [HF.out] at d1
          have hcb : (b.size : Int) < (b.size : Int) + 1 := by omega
          clear hown
          go_wp2
          go_ret
          exact ⟨rfl, HB.out⟩
end Go.Proofs.Ytgdiffdpjpkleaa
