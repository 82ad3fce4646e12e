/-
  SwapLetters of the model: how it ends; both answer alike. Used by the claims on chapter 2.
-/
import Derived.Test.YtfjedcjpgmledaaSwapB
namespace Go.Proofs.Ytfjedcjpgmledaa
open Go.RowKit
set_option linter.unusedVariables false

set_option maxHeartbeats 4000000 in
theorem sSwap_any (a : Option Addr) (b o c : Nat) (xs : List ByteArray) (i j : Int) (w : World) (h : ListIn w a b o xs) :
    Calls Try.prog 36 #[.agg #[.slice a xs.length c], .int .i64 i, .int .i64 j] w (TabOut (swapT xs i j) (swapR xs i j) w) := by
  have hl := h.len
  have hbx := (below_alloc w (.cells #[.slice a xs.length c] 26)).alloc (by simp) (.cells #[.slice none 0 0] 26)
  have F := Lib.hid fun o1 o2 => stable_any a b o c xs ((w.alloc o1).alloc o2) (h.below ((below_alloc w o1).alloc (by simp) o2))
  have HS := Lib.hid h
  clear h
  have k0 := (Boxed.new w 26 (.slice a xs.length c)).alloc (.cells #[.slice none 0 0] 26)
  have k1 := Boxed.new (w.alloc (.cells #[.slice a xs.length c] 26)) 26 (.slice none 0 0)
  have e1 : (w.alloc (.cells #[.slice a xs.length c] 26)).heap.size = w.heap.size + 1 := by simp
  have e2 : ((w.alloc (.cells #[.slice a xs.length c] 26)).alloc (.cells #[.slice none 0 0] 26)).heap.size = w.heap.size + 2 := by simp
  rw [e1] at k1
  have K := Lib.hid (And.intro k0 (And.intro k1 (And.intro e2 hbx)))
  clear k0 k1 e1 e2 hbx
  by_cases ht : tableB xs = true
  · have F2 := Lib.hid fun o1 o2 => val_eq (v' := .bool true) (F.out o1 o2) (by rw [ht])
    have h0 : 0 < xs.length := ((tableB_iff xs).1 ht).1.1
    have h10 : xs.length ≤ 10 := ((tableB_iff xs).1 ht).1.2
    obtain rfl := HS.out.src.1 h0
    by_cases hij : (0 ≤ i ∧ i < xs.length) ∧ (0 ≤ j ∧ j < xs.length)
    · have HI1 := Lib.hid fun w => val_eq (v' := .bool true) (in_any i 0 ((xs.length : Int) - 1) w) (by congr 1; rw [Bool.and_eq_true]; simp only [decide_eq_true_eq]; omega)
      have HI2 := Lib.hid fun w => val_eq (v' := .bool true) (in_any j 0 ((xs.length : Int) - 1) w) (by congr 1; rw [Bool.and_eq_true]; simp only [decide_eq_true_eq]; omega)
      obtain ⟨p, rfl⟩ : ∃ p : Nat, i = (p : Int) := ⟨i.toNat, by omega⟩
      obtain ⟨q, rfl⟩ : ∃ q : Nat, j = (q : Int) := ⟨j.toNat, by omega⟩
      have hp : p < xs.length := by omega
      have hq : q < xs.length := by omega
      have HT : Hid (swapT xs p q = swapB xs p q ∧ swapR xs p q = true) := Lib.hid (by
        have h1 : swapR xs p q = true := by unfold swapR; rw [ht]; simp; omega
        exact ⟨by unfold swapT; rw [if_pos h1]; simp, h1⟩)
      have G := Lib.hid fun w1 (hb : Below w.heap.size w w1) => own_any b o c xs w1 h10 (HS.out.below (w' := w1) hb).src.2
      have HGp : Hid (xs.getD p ⟨#[]⟩ = xs[p]) := Lib.hid (by rw [List.getD_eq_getElem?_getD, List.getElem?_eq_getElem hp]; rfl)
      have HGq : Hid (xs.getD q ⟨#[]⟩ = xs[q]) := Lib.hid (by rw [List.getD_eq_getElem?_getD, List.getElem?_eq_getElem hq]; rfl)
      have hp0 : (0 : Int) ≤ (p : Int) := by omega
      have hp1 : (p : Int) < (xs.length : Int) := by omega
      have hq0 : (0 : Int) ≤ (q : Int) := by omega
      have hq1 : (q : Int) < (xs.length : Int) := by omega
      clear ht F hij
      go_enter Try.func36, Try.ntmps36
      go_wp2_with fail
      refine (F2.out _ _).mono ?_
      rintro e w1 ⟨rfl, hb⟩
      rw [K.out.2.2.1] at hb
      have hB1 := boxed_below K.out.1 hb (by omega)
      have hR1 := boxed_below K.out.2.1 hb (by omega)
      have hc1 := hB1.cell
      have H1 := Lib.hid (And.intro hR1 (And.intro (K.out.2.2.2.trans (hb.mono (by omega))) (Nat.le_trans (by rw [K.out.2.2.1]; exact Nat.le_refl _) hb.size : w.heap.size + 2 ≤ w1.heap.size)))
      clear hb hB1 hR1
      go_wp2_with fail
      refine (HI1.out _).mono ?_
      rintro e w' ⟨rfl, hww⟩
      obtain rfl := hww.symm
      go_wp2_with fail
      refine (HI2.out _).mono ?_
      rintro e w' ⟨rfl, hww⟩
      obtain rfl := hww.symm
      go_wp2_with fail
      refine (G.out w1 H1.out.2.1).mono ?_
      rintro e w2 ⟨v2, rfl, hown, _, hb⟩
      rw [List.take_length] at hown
      obtain ⟨g, cap, rfl, hg1, hg2, hsrc, hopen⟩ := row_src hown h0
      have H2 : Hid (Boxed w2 (w.heap.size + 1) 26 (.slice none 0 0) ∧ Below w.heap.size w w2 ∧ w.heap.size + 2 ≤ g ∧ w2.ownsRow w1.heap.size 9 1 (.slice (some ⟨g, 0, none⟩) xs.length cap) xs.length (xs.map Value.string)) := Lib.hid ⟨boxed_below H1.out.1 hb (by have := H1.out.2.2; omega), H1.out.2.1.trans (hb.mono H1.out.2.1.size), Nat.le_trans H1.out.2.2 hg1, hown⟩
      obtain ⟨V, hV⟩ : ∃ V, V = w2.alloc (.cells #[.slice (some ⟨g, 0, none⟩) xs.length cap] 26) := ⟨_, rfl⟩
      have hBV : Below w1.heap.size w1 V := by rw [hV]; exact hb.alloc hb.size _
      have hRV : V.ownsRow w1.heap.size 9 1 (.slice (some ⟨g, 0, none⟩) xs.length cap) xs.length (xs.map Value.string) := by rw [hV]; exact hown.alloc _
      have hXV : Boxed V w2.heap.size 26 (.slice (some ⟨g, 0, none⟩) xs.length cap) := by rw [hV]; exact Boxed.new w2 _ _
      have hPV : Boxed V (w.heap.size + 1) 26 (.slice none 0 0) := by rw [hV]; exact H2.out.1.alloc _
      have hBl : Below w.heap.size w V := by rw [hV]; exact H2.out.2.1.alloc H2.out.2.1.size _
      have hgw : w.heap.size + 2 ≤ g ∧ g < w2.heap.size ∧ b < w.heap.size := ⟨H2.out.2.2.1, hg2, src_lt HS.out.src h0⟩
      have hVc := hXV.cell
      have hVb : V.cell? ⟨w.heap.size, 0, none⟩ = some (.slice (some ⟨b, o, none⟩) xs.length c) := (hBV.cell (p := ⟨w.heap.size, 0, none⟩) (by have := H1.out.2.2; simp; omega)).trans hc1
      have hVp : V.cell? ⟨b, o + p, none⟩ = some (.string xs[p]) := (HS.out.below hBl).src.2 p _ (List.getElem?_eq_getElem hp)
      have hVq : V.cell? ⟨b, o + q, none⟩ = some (.string xs[q]) := (HS.out.below hBl).src.2 q _ (List.getElem?_eq_getElem hq)
      generalize xs[p] = xp at hVp HGp
      generalize xs[q] = xq at hVq HGq
      obtain ⟨up, hup⟩ : ∃ u, V.cell? ⟨g, p, none⟩ = some u := by
        rw [hRV.cellAt p (by omega)]
        exact ⟨_, List.getElem?_eq_getElem (by simp; exact hp)⟩
      have hfp := hRV.frozenAt p
      have hfq := hRV.frozenAt q
      obtain ⟨hst, hgs⟩ := hRV.stored p (.string xq)
      obtain ⟨uq, huq⟩ : ∃ u, (V.setCell ⟨g, p, none⟩ (.string xq)).cell? ⟨g, q, none⟩ = some u := by
        rw [hst.cellAt q (by omega)]
        exact ⟨_, List.getElem?_eq_getElem (by simp; exact hq)⟩
      obtain ⟨hst2, hgs2⟩ := hst.stored q (.string xp)
      have hX2 := hXV.kept hgs (by intro e; have e2 := Option.some.inj e; omega)
      have hX3 := hX2.kept hgs2 (by intro e; have e2 := Option.some.inj e; omega)
      have hP3 := (hPV.kept hgs (by intro e; have e2 := Option.some.inj e; omega)).kept hgs2 (by intro e; have e2 := Option.some.inj e; omega)
      have hVc2 := hX2.cell
      have hVc3 := hX3.cell
      have hrc := hP3.cell
      have hrf := hP3.frozen
      have hVb2 : (V.setCell ⟨g, p, none⟩ (.string xq)).cell? ⟨w.heap.size, 0, none⟩ = some (.slice (some ⟨b, o, none⟩) xs.length c) := by
        rw [World.cell?_setCell_other _ _ _ _ (by intro e; have e2 := congrArg Addr.block e; simp only at e2; omega)]; exact hVb
      have hVp2 : (V.setCell ⟨g, p, none⟩ (.string xq)).cell? ⟨b, o + p, none⟩ = some (.string xp) := by
        rw [World.cell?_setCell_other _ _ _ _ (by intro e; have e2 := congrArg Addr.block e; simp only at e2; omega)]; exact hVp
      have HFin : Hid (Boxed ((V.setCell ⟨g, p, none⟩ (.string xq)).setCell ⟨g, q, none⟩ (.string xp)) (w.heap.size + 1) 26 (.slice none 0 0) ∧ Below w.heap.size w ((V.setCell ⟨g, p, none⟩ (.string xq)).setCell ⟨g, q, none⟩ (.string xp)) ∧ ((V.setCell ⟨g, p, none⟩ (.string xq)).setCell ⟨g, q, none⟩ (.string xp)).ownsRow w1.heap.size 9 1 (.slice (some ⟨g, 0, none⟩) xs.length cap) xs.length ((swapB xs p q).map Value.string)) := Lib.hid ⟨hP3, (hBl.setCell (p := ⟨g, p, none⟩) (by simp; omega) _).setCell (p := ⟨g, q, none⟩) (by simp; omega) _, by
        have e : (swapB xs p q).map Value.string = ((xs.map Value.string).set p (.string xq)).set q (.string xp) := by
          unfold swapB
          rw [HGp.out, HGq.out, List.map_set, List.map_set]
        rw [e]; exact hst2⟩
      have HGw := Lib.hid hgw
      clear hb hown hg1 hsrc hopen hc1 hBV hRV hXV hPV hBl hst hgs hst2 hgs2 hX2 hX3 hP3 hgw
      go_wp2_with fail
      rw [← hV]
      clear hV
      go_region
      go_wp2
      go_region
      go_wp2
      refine bodyPost_ret (res_tab2 rfl _ rfl ((HFin.out.1).set _)) rfl ?_
      rw [HT.out.1, HT.out.2]
      have hlen : (swapB xs p q).length = xs.length := by simp [swapB]
      have hrow := HFin.out.2.2
      rw [← hlen] at hrow
      obtain ⟨g', cap', hv, _, _, hsrc, hopen⟩ := row_src hrow (by rw [hlen]; exact h0)
      injection hv with hv1 _ hv3
      injection hv1 with hv4
      injection hv4 with hv5 _ _
      subst hv5
      have HG2 := HGw.out.1
      refine ⟨_, g, cap, by rw [hlen]; rfl, ?_, fun _ => by omega, fun j hj => ?_, (HFin.out.2.1.setCell (p := ⟨w.heap.size + 1, 0, none⟩) (by simp) _).drew.drew⟩
      · refine ⟨fun _ => rfl, fun j x hx => ?_⟩
        show (((V.setCell ⟨g, p, none⟩ (.string xq)).setCell ⟨g, q, none⟩ (.string xp)).setCell ⟨w.heap.size + 1, 0, none⟩ _).cell? _ = _
        rw [World.cell?_setCell_other _ _ _ _ (by intro e; have e2 := congrArg Addr.block e; simp only at e2; omega)]
        exact hsrc.2 j x hx
      · show (((V.setCell ⟨g, p, none⟩ (.string xq)).setCell ⟨g, q, none⟩ (.string xp)).setCell ⟨w.heap.size + 1, 0, none⟩ _).frozen? _ = _
        rw [World.frozen?_setCell]
        exact hopen j hj
    · have HT : Hid (swapT xs i j = [] ∧ swapR xs i j = false) := Lib.hid (by
        have h1 : swapR xs i j = false := by
          rw [Bool.eq_false_iff]
          intro h
          unfold swapR at h
          simp only [Bool.and_eq_true, decide_eq_true_eq] at h
          exact hij h.2
        exact ⟨swap_no h1, h1⟩)
      clear ht F
      have h1n : 1 ≤ xs.length := h0
      by_cases hi : 0 ≤ i ∧ i < (xs.length : Int)
      · have HI1 := Lib.hid fun w => val_eq (v' := .bool true) (in_any i 0 ((xs.length : Int) - 1) w) (by congr 1; rw [Bool.and_eq_true]; simp only [decide_eq_true_eq]; omega)
        have HI2 := Lib.hid fun w => val_eq (v' := .bool false) (in_any j 0 ((xs.length : Int) - 1) w) (by congr 1; rw [Bool.and_eq_false_iff]; simp only [decide_eq_false_iff_not]; omega)
        clear hij hi
        go_enter Try.func36, Try.ntmps36
        go_wp2_with fail
        refine (F2.out _ _).mono ?_
        rintro e w1 ⟨rfl, hb⟩
        rw [K.out.2.2.1] at hb
        have hB1 := boxed_below K.out.1 hb (by omega)
        have hR1 := boxed_below K.out.2.1 hb (by omega)
        have hc1 := hB1.cell
        have hrc := hR1.cell
        have hrf := hR1.frozen
        have H1 := Lib.hid (And.intro hR1 (K.out.2.2.2.trans (hb.mono (by omega))))
        clear hb hR1 hB1
        go_wp2_with fail
        refine (HI1.out _).mono ?_
        rintro e w' ⟨rfl, hww⟩
        obtain rfl := hww.symm
        go_wp2_with fail
        refine (HI2.out _).mono ?_
        rintro e w' ⟨rfl, hww⟩
        obtain rfl := hww.symm
        go_wp2
        refine bodyPost_ret (res_tab2 rfl _ rfl (H1.out.1.set _)) rfl ?_
        rw [HT.out.1, HT.out.2]
        exact tabOut_none (H1.out.2.setCell (p := ⟨w.heap.size + 1, 0, none⟩) (by simp) _)
      · have HI1 := Lib.hid fun w => val_eq (v' := .bool false) (in_any i 0 ((xs.length : Int) - 1) w) (by congr 1; rw [Bool.and_eq_false_iff]; simp only [decide_eq_false_iff_not]; omega)
        clear hij hi
        go_enter Try.func36, Try.ntmps36
        go_wp2_with fail
        refine (F2.out _ _).mono ?_
        rintro e w1 ⟨rfl, hb⟩
        rw [K.out.2.2.1] at hb
        have hB1 := boxed_below K.out.1 hb (by omega)
        have hR1 := boxed_below K.out.2.1 hb (by omega)
        have hc1 := hB1.cell
        have hrc := hR1.cell
        have hrf := hR1.frozen
        have H1 := Lib.hid (And.intro hR1 (K.out.2.2.2.trans (hb.mono (by omega))))
        clear hb hR1 hB1
        go_wp2_with fail
        refine (HI1.out _).mono ?_
        rintro e w' ⟨rfl, hww⟩
        obtain rfl := hww.symm
        go_wp2
        refine bodyPost_ret (res_tab2 rfl _ rfl (H1.out.1.set _)) rfl ?_
        rw [HT.out.1, HT.out.2]
        exact tabOut_none (H1.out.2.setCell (p := ⟨w.heap.size + 1, 0, none⟩) (by simp) _)
  · have F2 := Lib.hid fun o1 o2 => val_eq (v' := .bool false) (F.out o1 o2) (by simp [ht])
    have HT : Hid (swapT xs i j = [] ∧ swapR xs i j = false) := Lib.hid (by
      have h1 : swapR xs i j = false := by unfold swapR; simp [ht]
      exact ⟨swap_no h1, h1⟩)
    clear ht F
    go_enter Try.func36, Try.ntmps36
    go_wp2_with fail
    refine (F2.out _ _).mono ?_
    rintro e w1 ⟨rfl, hb⟩
    rw [K.out.2.2.1] at hb
    have hR1 := boxed_below K.out.2.1 hb (by omega)
    have hrc := hR1.cell
    have hrf := hR1.frozen
    have H1 := Lib.hid (And.intro hR1 (K.out.2.2.2.trans (hb.mono (by omega))))
    clear hb hR1
    go_wp2
    refine bodyPost_ret (res_tab2 rfl _ rfl (H1.out.1.set _)) rfl ?_
    rw [HT.out.1, HT.out.2]
    exact tabOut_none (H1.out.2.setCell (p := ⟨w.heap.size + 1, 0, none⟩) (by simp) _)

theorem swapLetters_both (xs : List ByteArray) (i j : Int) (hl : xs.length ≤ 1048576) (ht : ∀ x ∈ xs, x.size ≤ 1048576) (hi : (Lit.int .i64 i).wf = true) (hj : (Lit.int .i64 j).wf = true) : ∃ (ys : List ByteArray) (R1 : Bool), ys.length ≤ 10 ∧
    Hid (∀ W a b o c, ListIn W a b o xs → xs.length ≤ c → Calls Try.prog 36 #[.agg #[.slice a xs.length c], .int .i64 i, .int .i64 j] W (TabOut ys R1 W)) ∧
    Hid (∀ W a b o c, ListIn W a b o xs → xs.length ≤ c → Calls Try.prog 35 #[.agg #[.slice a xs.length c], .int .i64 i, .int .i64 j] W (TabOut ys R1 W)) :=
  ⟨swapT xs i j, swapR xs i j, swapT_len xs i j, fun W a b o c h _ => sSwap_any a b o c xs i j W h, fun W a b o c h _ => swap_any a b o c xs i j W h⟩
end Go.Proofs.Ytfjedcjpgmledaa
