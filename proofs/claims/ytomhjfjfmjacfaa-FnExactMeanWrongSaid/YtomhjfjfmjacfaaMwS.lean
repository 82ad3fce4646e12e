/-
  MeanWrong of the model: both answer alike. Used by the claims on chapter 7.
-/
import Derived.Test.YtomhjfjfmjacfaaMwB
namespace Go.Proofs.Ytomhjfjfmjacfaa
open Go.RowKit
set_option linter.unusedVariables false

set_option maxHeartbeats 4000000 in
set_option maxRecDepth 20000 in
theorem sMeanWrong_any (a : Option Addr) (b o c : Nat) (xs : List ByteArray) (N d : Int) (m : ByteArray) (w : World) (h : ListIn w a b o xs) (hms : m.size ≤ maxLen) :
    Calls Try.prog 38 #[.agg #[.slice a xs.length c], .agg #[.int .i64 N, .int .i64 d], .string m] w fun e w' => e = .returned (.tuple #[.agg #[.int .i64 ((mwR N d xs m).1.1 : Int), .int .i64 ((mwR N d xs m).1.2 : Int)], .bool (mwR N d xs m).2]) ∧ Below w.heap.size w w' := by
  have HC0 := Lib.hid (carT_new w a b o c xs N d h)
  have HC := Lib.hid (HC0.out.step (below_alloc _ (.cells #[.int .i64 0, .int .i64 0] 28)))
  have HT := Lib.hid (res_new w (.cells #[.slice a xs.length c] 38) (.cells #[.int .i64 N, .int .i64 d] 25))
  have F1 := Lib.hid fun W h => stable_any a b o c xs W h
  have F2 := Lib.hid fun W => sGood_any N d W
  have l1 := HC.out.tab
  clear HC0
  cases ht : tableB xs with
  | false =>
    have HR := Lib.hid (mw_no (N := N) (d := d) (xs := xs) (m := m) (by unfold mwB; rw [ht]; rfl))
    have F1 := Lib.hid fun W h => val_eqF (v' := .bool false) (F1.out W h) (by rw [ht])
    rw [HR.out]
    clear ht h
    go_enter Try.func38, Try.ntmps38
    go_wp2_with fail
    refine (F1.out _ HC.out.lst).mono ?_
    rintro e w1 ⟨rfl, hb⟩
    have HC1 := Lib.hid (HC.out.step hb)
    have HT2 := Lib.hid (HT.out.below hb)
    have f0 := HT2.out.frozen 0
    have f1 := HT2.out.frozen 1
    have k0 := HT2.out.cell0
    have k1 := HT2.out.cell1
    clear hb l1
    go_wp2
    refine bodyPost_ret (res_two rfl _ rfl ((HT2.out.set0 _).set1 _)) rfl ?_
    exact ⟨rfl, (HC1.out.below.setCell (p := ⟨w.heap.size + 1 + 1, 0, none⟩) (by simp; omega) _).setCell (p := ⟨w.heap.size + 1 + 1, 1, none⟩) (by simp; omega) _⟩
  | true =>
    have F1 := Lib.hid fun W h => val_eqF (v' := .bool true) (F1.out W h) (by rw [ht])
    cases hg : goodN N d with
    | false =>
      have HR := Lib.hid (mw_no (N := N) (d := d) (xs := xs) (m := m) (by unfold mwB; rw [hg, Bool.and_false]))
      rw [HR.out]
      rw [hg] at F2
      clear ht h hg
      go_enter Try.func38, Try.ntmps38
      go_wp2_with fail
      refine (F1.out _ HC.out.lst).mono ?_
      rintro e w1 ⟨rfl, hb⟩
      have HC1 := Lib.hid (HC.out.step hb)
      have HT1 := Lib.hid (HT.out.below hb)
      have k0 := HC1.out.noi.cell0
      have k1 := HC1.out.noi.cell1
      clear hb l1
      go_wp2_with fail
      refine (F2.out _).mono ?_
      rintro e w2 ⟨rfl, hb⟩
      have HC2 := Lib.hid (HC1.out.step hb)
      have HT2 := Lib.hid (HT1.out.below hb)
      clear hb k0 k1
      have f0 := HT2.out.frozen 0
      have f1 := HT2.out.frozen 1
      have k0 := HT2.out.cell0
      have k1 := HT2.out.cell1
      go_wp2
      refine bodyPost_ret (res_two rfl _ rfl ((HT2.out.set0 _).set1 _)) rfl ?_
      exact ⟨rfl, (HC2.out.below.setCell (p := ⟨w.heap.size + 1 + 1, 0, none⟩) (by simp; omega) _).setCell (p := ⟨w.heap.size + 1 + 1, 1, none⟩) (by simp; omega) _⟩
    | true =>
      rw [hg] at F2
      have hn := ((tableB_iff xs).1 ht).1
      have F3 := Lib.hid fun W => sMsg_any a b o c xs m W hn.1 hn.2 hms
      cases hm : msgL xs.length (bl m) with
      | false =>
        have HR := Lib.hid (mw_no (N := N) (d := d) (xs := xs) (m := m) (by unfold mwB; rw [hm, Bool.and_false]; rfl))
        rw [HR.out]
        rw [hm] at F3
        clear ht h hg hm hn
        go_enter Try.func38, Try.ntmps38
        go_wp2_with fail
        refine (F1.out _ HC.out.lst).mono ?_
        rintro e w1 ⟨rfl, hb⟩
        have HC1 := Lib.hid (HC.out.step hb)
        have HT1 := Lib.hid (HT.out.below hb)
        have k0 := HC1.out.noi.cell0
        have k1 := HC1.out.noi.cell1
        clear hb l1
        go_wp2_with fail
        refine (F2.out _).mono ?_
        rintro e w2 ⟨rfl, hb⟩
        have HC2 := Lib.hid (HC1.out.step hb)
        have HT2 := Lib.hid (HT1.out.below hb)
        have l1 := HC2.out.tab
        clear hb k0 k1
        go_wp2_with fail
        refine (F3.out _).mono ?_
        rintro e w3 ⟨rfl, hb⟩
        have HC3 := Lib.hid (HC2.out.step hb)
        have HT3 := Lib.hid (HT2.out.below hb)
        clear hb l1
        have f0 := HT3.out.frozen 0
        have f1 := HT3.out.frozen 1
        have k0 := HT3.out.cell0
        have k1 := HT3.out.cell1
        go_wp2
        refine bodyPost_ret (res_two rfl _ rfl ((HT3.out.set0 _).set1 _)) rfl ?_
        exact ⟨rfl, (HC3.out.below.setCell (p := ⟨w.heap.size + 1 + 1, 0, none⟩) (by simp; omega) _).setCell (p := ⟨w.heap.size + 1 + 1, 1, none⟩) (by simp; omega) _⟩
      | true =>
        rw [hm] at F3
        obtain ⟨p, q, e, rfl, rfl, he, g1, g2, hR⟩ := mw_yes ht hm hg
        rw [hR]
        have hA := allN_le (p := p) (q := q) (by omega) (by omega)
        have hA0 := allN_pos (p := p) (q := q) (by omega)
        have hn10 := hn.2
        obtain ⟨hm12, hsg⟩ := msg_signM hm
        have hm12 : m.size ≤ 12 := by rw [← bl_len]; exact hm12
        obtain ⟨hwl, hws⟩ := wr_bounds p q xs (bl m)
        have hS2 : (wrL p q xs (bl m)).sum ≤ 1000000000000 := Nat.le_trans hws (Nat.le_trans (Nat.mul_le_mul (by rw [bl_len]; exact hm12) hA) (by decide))
        have hax : a = some ⟨b, o, none⟩ := h.src.1 (by omega)
        have HMk := Lib.hid ((tableB_iff xs).1 ht).2.1
        have G1 := Lib.hid fun (y : ByteArray) (W : World) (hy : y.size ≤ 5) => sParts_any p q e y y W he g1 g2 hy hy
        have HPl := Lib.hid fun (y : ByteArray) (hy : (bl y).length ≤ 5) => ptN_le (p := p) (q := q) (x := bl y) (y := bl y) hy
        have G2 := Lib.hid fun W => sAll_any p q e W he g2
        have HSg := Lib.hid hsg
        have HSu := Lib.hid fun (k : Nat) (u : UInt8) (hu : (bl m)[k]? = some u) => wr_succ (p := p) (q := q) (xs := xs) hu
        have HLe : Hid (∀ k, (wrL p q xs ((bl m).take k)).sum ≤ 1000000000000) := Lib.hid fun k => Nat.le_trans (wr_bounds p q xs ((bl m).take k)).2 (Nat.le_trans (Nat.mul_le_mul (by rw [List.length_take, bl_len]; omega : _ ≤ 12) hA) (by decide))
        have HFin : Hid ((wrL p q xs ((bl m).take m.size)).sum = (wrL p q xs (bl m)).sum) := Lib.hid (by rw [← bl_len m, List.take_length])
        have HS0 : Hid ((wrL p q xs ((bl m).take 0)).sum = 0) := Lib.hid (by simp [wrL])
        have G3 := Lib.hid fun W => sCut_any (wrL p q xs (bl m)).sum (allN p q) W (by omega) hA0 (by omega)
        generalize (cutN (wrL p q xs (bl m)).sum (allN p q)).1 = r1 at G3 ⊢
        generalize (cutN (wrL p q xs (bl m)).sum (allN p q)).2 = r2 at G3 ⊢
        generalize (wrL p q xs (bl m)).sum = S at *
        have HDl : Hid (allN p q ≤ 10000000000) := Lib.hid hA
        obtain ⟨D, hD⟩ : ∃ D, allN p q = D := ⟨_, rfl⟩
        have HD := Lib.hid hD
        rw [hD] at G2 G3 HPl HDl hA
        subst hax
        clear ht hg hm hR hA hA0 hn hsg hwl hws hS2 he g1 g2 h hD
        go_enter Try.func38, Try.ntmps38
        go_wp2_with fail
        refine (F1.out _ HC.out.lst).mono ?_
        rintro e' w1 ⟨rfl, hb⟩
        have HC1 := Lib.hid (HC.out.step hb)
        have HT1 := Lib.hid (HT.out.below hb)
        have k0 := HC1.out.noi.cell0
        have k1 := HC1.out.noi.cell1
        clear hb l1
        go_wp2_with fail
        refine (F2.out _).mono ?_
        rintro e' w2 ⟨rfl, hb⟩
        have HC2 := Lib.hid (HC1.out.step hb)
        have HT2 := Lib.hid (HT1.out.below hb)
        have l1 := HC2.out.tab
        clear hb k0 k1
        go_wp2_with fail
        refine (F3.out _).mono ?_
        rintro e' w3 ⟨rfl, hb⟩
        have HC3 := Lib.hid (HC2.out.step hb)
        have HT3 := Lib.hid (HT2.out.below hb)
        clear hb l1
        go_wp2
        go_loopw [8, 9] (fun sv v wr => ∃ k r : Nat, v = .int .i64 k ∧ sv = .int .i64 r ∧ k ≤ m.size ∧ Hid (r = (wrL p q xs ((bl m).take k)).sum) ∧ Hid (CarT w (some ⟨b, o, none⟩) b o c xs w.heap.size (w.heap.size + 1) (p : Int) (e : Int) wr) ∧ Hid (Two wr (w.heap.size + 1 + 1) 0 0)) (fun _ v _ => m.size - (intOf v).toNat)
        case atStart => exact ⟨0, 0, rfl, rfl, Nat.zero_le _, Lib.hid (by rw [HS0.out]), HC3, HT3⟩
        case round =>
          clear HC3 HT3 HC2 HT2 HC1 HT1 HC HT
          obtain ⟨k, r, rfl, rfl, hk, HRs, HCr, HTr⟩ := hrel
          have l1 := HCr.out.tab
          by_cases hlt : k < m.size
          · have hkx : k + 1 ≤ m.size := hlt
            have j2 : (k : Int) + 1 ≤ 13 := by omega
            have j0 : (0 : Int) ≤ (k : Int) := by omega
            have j1 : (k : Int) < (m.size : Int) := by omega
            have hu := HSg.out _ (List.mem_of_getElem? (bl_at m k hlt))
            have HS := Lib.hid (HSu.out k _ (bl_at m k hlt))
            by_cases h32 : m[k] = 32
            · have t1 : ((m[k].toNat : Int) != 32) = false := by rw [h32]; rfl
              have t2 : ((m[k].toNat : Int) == 32) = true := by rw [h32]; rfl
              have HE : Hid (r = (wrL p q xs ((bl m).take (k + 1))).sum) := Lib.hid (by rw [HS.out, wrC, if_pos h32, List.append_nil]; exact HRs.out)
              clear h32 hu hm12 hn10
              go_wp2
              go_roundw
              case rel => exact ⟨k + 1, r, by go_num, rfl, hkx, HE, HCr, HTr⟩
              case measure => simp [intOf]; omega
            · have hu3 : 97 ≤ m[k].toNat ∧ m[k].toNat < 97 + xs.length := by
                have := hu.resolve_left h32
                unfold inRow at this; simpa using this
              have t0 : ¬ m[k].toNat = 32 := fun e2 => h32 (UInt8.toNat_inj.1 (by rw [e2]; rfl))
              have t1 : ((m[k].toNat : Int) != 32) = true := by simp; omega
              have t2 : ((m[k].toNat : Int) == 32) = false := by simp; omega
              obtain ⟨i, hiu⟩ : ∃ i, m[k].toNat = i + 97 := ⟨m[k].toNat - 97, by omega⟩
              have hil : i < xs.length := by omega
              have hxi : xs[i]? = some xs[i] := List.getElem?_eq_getElem hil
              have hgd : xs.getD (m[k].toNat - 97) ⟨#[]⟩ = xs[i] := by rw [show m[k].toNat - 97 = i by omega, List.getD_eq_getElem?_getD, hxi]; rfl
              have hy5 : xs[i].size ≤ 5 := by have := marks_len (HMk.out _ (List.getElem_mem hil)); rw [bl_len] at this; exact this.2
              have hsum : (wrL p q xs ((bl m).take (k + 1))).sum = r + (D - ptN p q (bl xs[i]) (bl xs[i])) := by rw [HS.out, wrC, if_neg h32, hgd, List.sum_append, HRs.out, HD.out]; simp
              have d1 := HCr.out.lst.src.2 i _ hxi
              have HXi := Lib.hid hxi
              generalize xs[i] = y at *
              have htD := HPl.out y (by rw [bl_len]; exact hy5)
              have GY := Lib.hid fun W => G1.out y W hy5
              have hle := HLe.out (k + 1)
              rw [hsum] at hle
              have hDl := HDl.out
              have hrl := HLe.out k
              rw [← HRs.out] at hrl
              have HR2 : Hid (r + (D - ptN p q (bl y) (bl y)) = (wrL p q xs ((bl m).take (k + 1))).sum) := Lib.hid hsum.symm
              have e1 : (r : Int) + (D : Int) = ((r + D : Nat) : Int) := by omega
              have e2 : ((r + D : Nat) : Int) - ((ptN p q (bl y) (bl y) : Nat) : Int) = ((r + (D - ptN p q (bl y) (bl y)) : Nat) : Int) := by omega
              have e3 : (m[k].toNat : Int) - 97 = (i : Int) := by omega
              have b1 : r + D ≤ 1000000000000000000 := by omega
              have b2 : r + (D - ptN p q (bl y) (bl y)) ≤ 1000000000000000000 := by omega
              have b4 : (m[k].toNat : Int) ≤ 255 := by omega
              have b5 : m[k].toNat ≤ 1000000000000000000 := by omega
              have i1 : (0 : Int) ≤ (i : Int) := by omega
              have i2 : (i : Int) < (xs.length : Int) := by omega
              have i3 : i ≤ 1000000000000000000 := by omega
              obtain ⟨w1', w2'⟩ := wrap_nat _ b1
              obtain ⟨w3', w4'⟩ := wrap_nat _ b2
              obtain ⟨w5', w6'⟩ := wrap_nat i i3
              obtain ⟨w7', w8'⟩ := wrap_nat _ b5
              generalize ptN p q (bl y) (bl y) = t at *
              generalize r + (D - t) = r' at *
              generalize r + D = r'' at *
              clear hu h32 hu3 t0 hiu hil hxi hgd hy5 hsum htD hle hDl hrl b1 b2 b5 i3 hm12 hn10
              go_wp2
              go_quiet (fail)
              obtain ⟨W2, hW2⟩ : ∃ W2 : World, W2 = wr.drewN nq := ⟨_, rfl⟩
              have HC2 : Hid (CarT w (some ⟨b, o, none⟩) b o c xs w.heap.size (w.heap.size + 1) (p : Int) (e : Int) W2) := Lib.hid (by rw [hW2]; exact HCr.out.step ⟨rfl, rfl, rfl, Nat.le_refl _, fun _ _ => rfl⟩)
              have HT2 : Hid (Two W2 (w.heap.size + 1 + 1) 0 0) := Lib.hid (by rw [hW2]; exact HTr.out)
              rw [← hW2]
              clear hW2 l1 d1
              have l2 := HC2.out.noi.cell0
              have l3 := HC2.out.noi.cell1
              have HCd := Lib.hid HC2.out.drew
              have HTd : Hid (Two W2.drew (w.heap.size + 1 + 1) 0 0) := Lib.hid HT2.out
              go_wp2
              go_region_held3 (fun w' => w'.cell? ⟨w.heap.size + 1, 0, none⟩ = some (.int .i64 (p : Int)) ∧ w'.cell? ⟨w.heap.size + 1, 1, none⟩ = some (.int .i64 (e : Int)))
                (first
                  | exact ⟨HC5.out.noi.cell0, HC5.out.noi.cell1⟩
                  | exact ⟨HC4.out.noi.cell0, HC4.out.noi.cell1⟩
                  | exact ⟨HCd.out.noi.cell0, HCd.out.noi.cell1⟩)
                ((first
                  | (go_at_call 60; refine (G2.out _).mono ?_; rintro e' w4 ⟨rfl, hb4⟩; have HC4 := Lib.hid (HCd.out.step hb4); have HT4 := Lib.hid (HTd.out.below hb4))
                  | (go_at_call 59; refine (GY.out _).mono ?_; rintro e' w5 ⟨rfl, hb5⟩; have HC5 := Lib.hid (HC4.out.step hb5); have HT5 := Lib.hid (HT4.out.below hb5))))
              go_wp2
              go_roundw
              case rel => exact ⟨k + 1, r', by go_num, rfl, hkx, HR2, HC5, HT5⟩
              case measure => simp [intOf]; omega
          · obtain rfl : k = m.size := by omega
            have HE : Hid (r = S) := Lib.hid (by rw [HRs.out, HFin.out])
            have G3 : Hid (∀ W, Calls Try.prog 58 #[.int .i64 (r : Int), .int .i64 (D : Int)] W fun e w' => e = .returned (.agg #[.int .i64 (r1 : Int), .int .i64 (r2 : Int)]) ∧ Below W.heap.size W w') := Lib.hid fun W => by rw [HE.out]; exact G3.out W
            have k0 := HCr.out.noi.cell0
            have k1 := HCr.out.noi.cell1
            clear HRs
            go_wp2_with fail
            refine (G2.out _).mono ?_
            rintro e' w4 ⟨rfl, hb⟩
            have HC4 := Lib.hid (HCr.out.step hb)
            have HT4 := Lib.hid (HTr.out.below hb)
            clear hb k0 k1 l1
            go_wp2_with fail
            refine (G3.out _).mono ?_
            rintro e' w5 ⟨rfl, hb⟩
            have HC5 := Lib.hid (HC4.out.step hb)
            have HT5 := Lib.hid (HT4.out.below hb)
            have f0 := HT5.out.frozen 0
            have f1 := HT5.out.frozen 1
            have k0 := HT5.out.cell0
            have k1 := HT5.out.cell1
            clear hb
            go_wp2
            refine bodyPost_ret (res_two rfl _ rfl ((HT5.out.set0 _).set1 _)) rfl ?_
            exact ⟨rfl, (HC5.out.below.setCell (p := ⟨w.heap.size + 1 + 1, 0, none⟩) (by simp; omega) _).setCell (p := ⟨w.heap.size + 1 + 1, 1, none⟩) (by simp; omega) _⟩

theorem meanWrong_both (xs : List ByteArray) (N d : Int) (m : ByteArray) (hl : xs.length ≤ 1048576) (ht : ∀ x ∈ xs, x.size ≤ 1048576) (hm : m.size ≤ 1048576) : ∃ (R0 R2 : Int) (R1 : Bool),
    Hid (∀ W a b o c, ListIn W a b o xs → Calls Try.prog 38 #[.agg #[.slice a xs.length c], .agg #[.int .i64 N, .int .i64 d], .string m] W fun e W' => e = .returned (.tuple #[.agg #[.int .i64 R0, .int .i64 R2], .bool R1]) ∧ Below W.heap.size W W') ∧
    Hid (∀ W a b o c, ListIn W a b o xs → Calls Try.prog 39 #[.agg #[.slice a xs.length c], .agg #[.int .i64 N, .int .i64 d], .string m] W fun e W' => e = .returned (.tuple #[.agg #[.int .i64 R0, .int .i64 R2], .bool R1]) ∧ Below W.heap.size W W') :=
  ⟨_, _, _, fun W a b o c h => sMeanWrong_any a b o c xs N d m W h (by unfold maxLen; omega), fun W a b o c h => meanWrong_any a b o c xs N d m W h (by unfold maxLen; omega)⟩
end Go.Proofs.Ytomhjfjfmjacfaa
