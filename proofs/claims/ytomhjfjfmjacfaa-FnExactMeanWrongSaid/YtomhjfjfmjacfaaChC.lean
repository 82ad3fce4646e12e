/-
  The chance that marks come of others, the program's: chanceComes. Used by the claims on chapter 7.
-/
import Derived.Test.YtomhjfjfmjacfaaChW
import Derived.Deep.RegionWith
namespace Go.Proofs.Ytomhjfjfmjacfaa
open Go.RowKit
set_option linter.unusedVariables false

theorem mark_fr {p q d : Nat} (hd : d = p + q) (h1 : 1 ≤ d) (a b : UInt8) : ((if a = b then (cutN p d).2 - (cutN p d).1 else (cutN p d).1), (cutN p d).2) = cutN (if a = b then q else p) d := by
  by_cases e : a = b
  · rw [if_pos e, if_pos e]
    have := cut_rest (a := p) (b := d) (by omega) (by omega)
    rw [this, show d - p = q by omega]
  · rw [if_neg e, if_neg e]
theorem step_fr {p q d : Nat} {x y : Bs} {k : Nat} {a b : UInt8} (hd : d = p + q) (h1 : 1 ≤ d) (ha : x[k]? = some a) (hb : y[k]? = some b) {m1 m2 r c : Nat}
    (hm : (m1, m2) = cutN (prL p q (x.take k) (y.take k)) (d ^ k)) (hr : (r, c) = cutN (if a = b then q else p) d) :
    cutN (m1 * r) (m2 * c) = cutN (prL p q (x.take (k + 1)) (y.take (k + 1))) (d ^ (k + 1)) := by
  have la := (List.getElem?_eq_some_iff.1 ha).1
  have lb := (List.getElem?_eq_some_iff.1 hb).1
  have e : prL p q (x.take (k + 1)) (y.take (k + 1)) = prL p q (x.take k) (y.take k) * (if a = b then q else p) := by
    rw [List.take_add_one, List.take_add_one, ha, hb]
    exact prL_snoc p q a b _ _ (by rw [List.length_take, List.length_take]; omega)
  rw [e, Nat.pow_succ, ← cut_mul (Nat.pow_pos h1) (by omega), ← hm, ← hr]
theorem fr_bounds {p q d : Nat} {x y : Bs} {k : Nat} (hd : d = p + q) (h1 : 1 ≤ d) (h2 : d ≤ 100) (hk : k ≤ 5) (hx : x.length = k) {m1 m2 : Nat} (hm : (m1, m2) = cutN (prL p q x y) (d ^ k)) : m1 ≤ 10000000000 ∧ m2 ≤ 10000000000 ∧ 0 < m2 := by
  have e1 : m1 = (cutN (prL p q x y) (d ^ k)).1 := by rw [← hm]
  have e2 : m2 = (cutN (prL p q x y) (d ^ k)).2 := by rw [← hm]
  have b0 := prL_le p q x y
  rw [← hd, hx] at b0
  have b1 := cut_le1 (prL p q x y) (d ^ k)
  have b2 := cut_le2 (prL p q x y) (d ^ k)
  have b3 := cut_pos (a := prL p q x y) (b := d ^ k) (Nat.pow_pos h1)
  have b4 := pow_le5 h1 h2 hk
  omega

/-- The world behind the chance of one mark. -/
structure Mid (wr W : World) (g : Nat) (x y : Nat) : Prop where
  two : Two W g x y
  below : Below wr.heap.size wr W
theorem mid_alloc {wr w4 : World} {x y : Nat} (h : Below wr.drew.heap.size wr.drew w4) : Mid wr (w4.alloc (.cells #[.int .i64 x, .int .i64 y] 28)) w4.heap.size x y :=
  ⟨two_new _ _ _, ((Below.refl wr.heap.size wr).drew.trans h).alloc h.size _⟩
theorem mid_set {wr w4 : World} {x y : Nat} {o : Obj} (hn : Two w4 wr.heap.size 0 0) (h : Below (wr.alloc o).drew.heap.size (wr.alloc o).drew w4) : Mid wr ((w4.setCell ⟨wr.heap.size, 0, none⟩ (.int .i64 x)).setCell ⟨wr.heap.size, 1, none⟩ (.int .i64 y)) wr.heap.size x y :=
  ⟨(hn.set0 _).set1 _, (((below_alloc wr o).drew.trans (h.mono (below_alloc wr o).size)).setCell (p := ⟨wr.heap.size, 0, none⟩) (Nat.le_refl _) _).setCell (p := ⟨wr.heap.size, 1, none⟩) (Nat.le_refl _) _⟩
theorem mul_factsC (a b c : Nat) (h : a * b = c) (hc : c ≤ 1000000000000000000) : (a : Int) * (b : Int) = (c : Int) ∧ wrap64 (c : Int) = (c : Int) ∧ IntKind.i64.wrap (c : Int) = (c : Int) :=
  ⟨by rw [← h]; exact (Int.natCast_mul _ _).symm, (wrap_nat c hc).1, (wrap_nat c hc).2⟩
set_option maxHeartbeats 4000000 in
set_option maxRecDepth 20000 in
theorem chanceComes_any (p q d : Nat) (x y : ByteArray) (w : World) (hd : d = p + q) (h1 : 1 ≤ d) (h2 : d ≤ 100) (hx : marksL (bl x) = true) (hy : marksL (bl y) = true) :
    Calls Try.prog 62 #[.agg #[.int .i64 p, .int .i64 d], .string x, .string y] w fun e w' => e = .returned (.agg #[.int .i64 (((frN p q (bl x) (bl y)).1 : Nat) : Int), .int .i64 (((frN p q (bl x) (bl y)).2 : Nat) : Int)]) ∧ Below w.heap.size w w' := by
  have C := Lib.hid fun W => canCome_any p q p d x y W rfl (by rw [hd]) (by omega) hx hy
  have hT := (pr2_new 25 w p d).below (below_alloc _ (.cells #[.int .i64 0, .int .i64 0] 28))
  have l1 := load_noi hT
  have hR := two_new (w.alloc (.cells #[.int .i64 (p : Int), .int .i64 (d : Int)] 25)) 0 0
  have e0 : (w.alloc (.cells #[.int .i64 (p : Int), .int .i64 (d : Int)] 25)).heap.size = w.heap.size + 1 := by simp
  rw [e0] at hR
  have HB0 := Lib.hid ((below_alloc w (.cells #[.int .i64 (p : Int), .int .i64 (d : Int)] 25)).alloc (by simp) (.cells #[.int .i64 0, .int .i64 0] 28))
  have HT0 := Lib.hid hT
  have HR0 := Lib.hid hR
  clear hT hR e0
  cases hc : canN p q (bl x) (bl y) with
  | false =>
    have HV : Hid (frN p q (bl x) (bl y) = (0, 1)) := Lib.hid (fr_zero (by omega) hc)
    rw [hc] at C
    rw [HV.out]
    clear hc hd h1 h2 hx hy
    go_enter Try.func62, Try.ntmps62
    go_wp2_with fail
    refine (C.out _).mono ?_
    rintro e w1 ⟨rfl, hb⟩
    have hR := HR0.out.below hb
    have f0 := hR.frozen 0
    have f1 := hR.frozen 1
    have k0 := hR.cell0
    have k1 := hR.cell1
    have HR := Lib.hid hR
    have HB := Lib.hid (HB0.out.trans (hb.mono (by simp; omega)))
    clear hb l1 hR
    go_wp2
    refine bodyPost_ret (res_twoF rfl _ rfl ((HR.out.set0 _).set1 _)) rfl ?_
    exact ⟨rfl, (HB.out.setCell (p := ⟨w.heap.size + 1, 0, none⟩) (by simp) _).setCell (p := ⟨w.heap.size + 1, 1, none⟩) (by simp) _⟩
  | true =>
    have hxy : x.size = y.size := by
      have := can_len hc
      rwa [bl_len, bl_len] at this
    have hx5 : x.size ≤ 5 := by have := marks_len hx; rw [bl_len] at this; exact this.2
    rw [hc] at C
    have M := Lib.hid fun W => chanceOfMark_any p q d W hd h1 h2
    have HFin : Hid (cutN (prL p q ((bl x).take x.size) ((bl y).take x.size)) (d ^ x.size) = frN p q (bl x) (bl y)) := Lib.hid (by
      rw [List.take_of_length_le (by rw [bl_len]; omega), List.take_of_length_le (by rw [bl_len]; omega), hd, ← bl_len x]
      exact frN_eq (by omega) (by rw [bl_len]; exact hx5))
    have HMk := Lib.hid fun a b => mark_fr (p := p) (q := q) (d := d) hd h1 a b
    have hc1 : (cutN p d).1 ≤ (cutN p d).2 := cut_le (by omega)
    have hc2 : (cutN p d).2 ≤ 100 := Nat.le_trans (cut_le2 p d) h2
    have hc3 : 0 < (cutN p d).2 := cut_pos (by omega)
    generalize (cutN p d).1 = c1 at *
    generalize (cutN p d).2 = c2 at *
    have HD := Lib.hid (And.intro hd (And.intro h1 h2))
    clear hc hd h1 h2 hx hy
    go_enter Try.func62, Try.ntmps62
    go_wp2_with fail
    refine (C.out _).mono ?_
    rintro e w1 ⟨rfl, hb⟩
    have hR := HR0.out.below hb
    have hT := HT0.out.below hb
    have HB := Lib.hid (HB0.out.trans (hb.mono (by simp; omega)))
    have HR := Lib.hid hR
    have l2 := hT.cell0
    have l3 := hT.cell1
    have hsz1 : w.heap.size + 1 < w1.heap.size := Nat.lt_of_lt_of_le (by simp) hb.size
    clear hb l1 hR hT
    go_wp2_with fail
    refine (M.out _).mono ?_
    rintro e w2 ⟨gT, rfl, hgT, hTT, hb⟩
    have HR2 := Lib.hid (HR.out.below hb)
    have HB2 := Lib.hid (HB.out.trans (hb.mono HB.out.size))
    have HTT := Lib.hid (hTT.below (below_alloc w2 (.cells #[.int .i64 1, .int .i64 1] 28)))
    have HTC := Lib.hid (two_new w2 1 1)
    have hsz2 : w.heap.size + 1 < w2.heap.size := Nat.lt_of_lt_of_le hsz1 hb.size
    have hgT2 : gT < w2.heap.size := (Array.getElem?_eq_some_iff.1 hTT).1
    clear hb l2 l3 hTT
    go_wp2
    go_loopw [22] (fun v wr => ∃ (k m1 m2 : Nat), v = .int .i64 k ∧ k ≤ x.size ∧ Hid (Two wr gT c1 c2) ∧ Hid (Two wr w2.heap.size m1 m2) ∧ Hid (Two wr (w.heap.size + 1) 0 0) ∧ Hid (Below w.heap.size w wr) ∧ Hid ((m1, m2) = cutN (prL p q ((bl x).take k) ((bl y).take k)) (d ^ k))) (fun v _ => x.size - (intOf v).toNat)
    case atStart => exact ⟨0, 1, 1, rfl, Nat.zero_le _, HTT, HTC, Lib.hid (HR2.out.below (below_alloc w2 _)), Lib.hid (HB2.out.alloc HB2.out.size _), Lib.hid (by simp [prL, cutN])⟩
    case round =>
      clear HTT HTC HR2 HB2
      obtain ⟨k, m1, m2, rfl, hk, HTT, HTC, HTR, HB2, HM⟩ := hrel
      by_cases hlt : k < x.size
      · have hlty : k < y.size := by omega
        have HS := Lib.hid (step_fr HD.out.1 HD.out.2.1 (bl_at x k hlt) (bl_at y k hlty) HM.out (HMk.out x[k] y[k]))
        obtain ⟨bm1, bm2, bm3⟩ := fr_bounds HD.out.1 HD.out.2.1 HD.out.2.2 (k := k) (by omega) (by rw [List.length_take, bl_len]; omega) HM.out
        have HC := Lib.hid fun W (h : Two W gT c1 c2) => chanceMark_any x[k] y[k] c1 c2 gT W h hc1 hc2
        have hr : (if x[k] = y[k] then c2 - c1 else c1) ≤ 100 := by split <;> omega
        generalize (if x[k] = y[k] then c2 - c1 else c1) = r at HS HC hr
        have bn1 : m1 * r ≤ 10000000000 * 100 := Nat.mul_le_mul bm1 hr
        have bn2 : m2 * c2 ≤ 10000000000 * 100 := Nat.mul_le_mul bm2 hc2
        have bn3 : 0 < m2 * c2 := Nat.mul_pos bm3 hc3
        obtain ⟨n1, hn1⟩ : ∃ n1, m1 * r = n1 := ⟨_, rfl⟩
        obtain ⟨n2, hn2⟩ : ∃ n2, m2 * c2 = n2 := ⟨_, rfl⟩
        rw [hn1, hn2] at HS
        rw [hn1] at bn1
        rw [hn2] at bn2 bn3
        have bn4 : n1 ≤ 10000000000000 := by omega
        have bn5 : n2 ≤ 10000000000000 := by omega
        have bn6 : n1 ≤ 1000000000000000000 := by omega
        have bn7 : n2 ≤ 1000000000000000000 := by omega
        have HF := Lib.hid fun W => frac_any n1 n2 W bn4 bn3 bn5
        have i0 : (0 : Int) ≤ (k : Int) := by omega
        have i1 : (k : Int) < (x.size : Int) := by omega
        have i2 : (k : Int) < (y.size : Int) := by omega
        have HTD : Hid (Two wr.drew gT c1 c2) := Lib.hid HTT.out
        have HTA : Hid (Two (wr.alloc (.cells #[.int .i64 0, .int .i64 0] 28)).drew gT c1 c2) := Lib.hid (HTT.out.below (below_alloc wr (.cells #[.int .i64 0, .int .i64 0] 28)) : Two (wr.alloc (.cells #[.int .i64 0, .int .i64 0] 28)) gT c1 c2)
        have HTN : Hid (Two (wr.alloc (.cells #[.int .i64 0, .int .i64 0] 28)).drew wr.heap.size 0 0) := Lib.hid (two_new wr 0 0)
        have HU := Lib.hid (mul_factsC m1 r n1 hn1 bn6)
        have HV := Lib.hid (mul_factsC m2 c2 n2 hn2 bn7)
        obtain ⟨f1, hf1⟩ : ∃ f1, (cutN n1 n2).1 = f1 := ⟨_, rfl⟩
        obtain ⟨f2, hf2⟩ : ∃ f2, (cutN n1 n2).2 = f2 := ⟨_, rfl⟩
        rw [hf1, hf2] at HF
        have HX : Hid ((f1, f2) = cutN (prL p q ((bl x).take (k + 1)) ((bl y).take (k + 1))) (d ^ (k + 1))) := Lib.hid (by rw [← HS.out, ← hf1, ← hf2])
        clear HS hn1 hn2 bn1 bn2 bn3 hf1 hf2 bm1 bm2 bm3 hr bn4 bn5 bn6 bn7
        go_wp2
        go_region_with (first
          | (go_at_call 109; refine (HC.out _ HTD.out).mono ?_; rintro e w4 ⟨rfl, hb4⟩; have HB4 := Lib.hid hb4; clear hb4)
          | (go_at_call 109; refine (HC.out _ HTA.out).mono ?_; rintro e w4 ⟨rfl, hb4⟩; have hN := HTN.out.below hb4; have kk0 := hN.cell0; have kk1 := hN.cell1; have ff0 := hN.frozen 0; have ff1 := hN.frozen 1; have HN4 := Lib.hid hN; have HB4 := Lib.hid hb4; clear hb4 hN))
        all_goals (first
          | (have HMid : Hid (Mid wr ((w4.setCell ⟨wr.heap.size, 0, none⟩ (.int .i64 r)).setCell ⟨wr.heap.size, 1, none⟩ (.int .i64 c2)) wr.heap.size r c2) := Lib.hid (mid_set HN4.out HB4.out)
             generalize (w4.setCell ⟨wr.heap.size, 0, none⟩ (.int .i64 r)).setCell ⟨wr.heap.size, 1, none⟩ (.int .i64 c2) = W at HMid ⊢
             generalize wr.heap.size = gM at HMid ⊢
             clear HN4 HB4 kk0 kk1 ff0 ff1)
          | (have HMid : Hid (Mid wr (w4.alloc (.cells #[.int .i64 r, .int .i64 c2] 28)) w4.heap.size r c2) := Lib.hid (mid_alloc HB4.out)
             generalize w4.alloc (.cells #[.int .i64 r, .int .i64 c2] 28) = W at HMid ⊢
             generalize w4.heap.size = gM at HMid ⊢
             clear HB4))
        all_goals (
          have s0 := HMid.out.two.cell0
          have s1 := HMid.out.two.cell1
          have r0 := (HTC.out.below HMid.out.below).cell0
          have r1 := (HTC.out.below HMid.out.below).cell1
          obtain ⟨u1, u2, u3⟩ := HU.out
          obtain ⟨v1, v2, v3⟩ := HV.out
          clear HTD HTA HTN
          go_wp2_with fail
          refine (HF.out _).mono ?_
          rintro e w5 ⟨rfl, hb5⟩
          clear s0 s1 r0 r1 u1 u2 u3 v1 v2 v3
          have hC5 := (HTC.out.below HMid.out.below).below hb5
          have r0 := hC5.cell0
          have r1 := hC5.cell1
          have f0 := hC5.frozen 0
          have f9 := hC5.frozen 1
          have HC5 := Lib.hid hC5
          have HT5 := Lib.hid ((HTT.out.below HMid.out.below).below hb5)
          have HR5 := Lib.hid ((HTR.out.below HMid.out.below).below hb5)
          have HB5 := Lib.hid ((HB2.out.trans (HMid.out.below.mono HB2.out.size)).trans (hb5.mono (Nat.le_trans HB2.out.size HMid.out.below.size)))
          clear hb5 hC5
          go_wp2
          go_roundw
          case rel => exact ⟨k + 1, f1, f2, by go_num, by omega, Lib.hid ((HT5.out.other (p := ⟨w2.heap.size, 0, none⟩) (by show w2.heap.size ≠ gT; omega) _).other (p := ⟨w2.heap.size, 1, none⟩) (by show w2.heap.size ≠ gT; omega) _), Lib.hid ((HC5.out.set0 _).set1 _), Lib.hid ((HR5.out.other (p := ⟨w2.heap.size, 0, none⟩) (by show w2.heap.size ≠ w.heap.size + 1; omega) _).other (p := ⟨w2.heap.size, 1, none⟩) (by show w2.heap.size ≠ w.heap.size + 1; omega) _), Lib.hid ((HB5.out.setCell (p := ⟨w2.heap.size, 0, none⟩) (by show w.heap.size ≤ w2.heap.size; omega) _).setCell (p := ⟨w2.heap.size, 1, none⟩) (by show w.heap.size ≤ w2.heap.size; omega) _), HX⟩
          case measure => simp [intOf]; omega)
      · obtain rfl : k = x.size := by omega
        have HE : Hid ((m1, m2) = frN p q (bl x) (bl y)) := Lib.hid (by rw [HM.out, HFin.out])
        have HE1 : Hid ((frN p q (bl x) (bl y)).1 = m1 ∧ (frN p q (bl x) (bl y)).2 = m2) := Lib.hid (by rw [← HE.out]; exact ⟨rfl, rfl⟩)
        have r0 := HTC.out.cell0
        have r1 := HTC.out.cell1
        have f0 := HTR.out.frozen 0
        have f9 := HTR.out.frozen 1
        have g0 := HTR.out.cell0
        have g1 := HTR.out.cell1
        go_wp2
        refine bodyPost_ret (res_twoF rfl _ rfl ((HTR.out.set0 _).set1 _)) rfl ?_
        exact ⟨by rw [HE1.out.1, HE1.out.2], (HB2.out.setCell (p := ⟨w.heap.size + 1, 0, none⟩) (by simp) _).setCell (p := ⟨w.heap.size + 1, 1, none⟩) (by simp) _⟩
end Go.Proofs.Ytomhjfjfmjacfaa
