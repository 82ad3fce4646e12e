/-
  SwapLetters of the program: how it ends. Used by the claims on chapter 2.
-/
import Derived.Test.YtfjedcjpgmledaaAddC
import Derived.Laws.OwnMore
import Derived.StillTailTactics
namespace Go.Proofs.Ytfjedcjpgmledaa
open Go.RowKit
set_option linter.unusedVariables false

def swapB (xs : List ByteArray) (p q : Nat) : List ByteArray := (xs.set p (xs.getD q ⟨#[]⟩)).set q (xs.getD p ⟨#[]⟩)
def swapR (xs : List ByteArray) (i j : Int) : Bool := tableB xs && (decide (0 ≤ i ∧ i < xs.length) && decide (0 ≤ j ∧ j < xs.length))
def swapT (xs : List ByteArray) (i j : Int) : List ByteArray := if swapR xs i j = true then swapB xs i.toNat j.toNat else []
theorem swap_no {xs : List ByteArray} {i j : Int} (h : swapR xs i j = false) : swapT xs i j = [] := by unfold swapT; rw [if_neg (by rw [h]; simp)]
theorem swapT_len (xs : List ByteArray) (i j : Int) : (swapT xs i j).length ≤ 10 := by
  unfold swapT
  split
  · next h =>
    unfold swapR at h
    rw [Bool.and_eq_true] at h
    have := ((tableB_iff _).1 h.1).1.2
    simp [swapB]; omega
  · simp

set_option maxHeartbeats 4000000 in
theorem swap_any (a : Option Addr) (b o c : Nat) (xs : List ByteArray) (i j : Int) (w : World) (h : ListIn w a b o xs) :
    Calls Try.prog 35 #[.agg #[.slice a xs.length c], .int .i64 i, .int .i64 j] w (TabOut (swapT xs i j) (swapR xs i j) w) := by
  have hl := h.len
  have hbx := (below_alloc w (.cells #[.slice a xs.length c] 26)).alloc (by simp) (.cells #[.slice none 0 0] 26)
  have F := Lib.hid fun o1 o2 => isTable_any a b o c xs ((w.alloc o1).alloc o2) (h.below ((below_alloc w o1).alloc (by simp) o2))
  have HS := Lib.hid h
  clear h
  have k0 := (Boxed.new w 26 (.slice a xs.length c)).alloc (.cells #[.slice none 0 0] 26)
  have k1 := Boxed.new (w.alloc (.cells #[.slice a xs.length c] 26)) 26 (.slice none 0 0)
  have e1 : (w.alloc (.cells #[.slice a xs.length c] 26)).heap.size = w.heap.size + 1 := by simp
  have e2 : ((w.alloc (.cells #[.slice a xs.length c] 26)).alloc (.cells #[.slice none 0 0] 26)).heap.size = w.heap.size + 2 := by simp
  rw [e1] at k1
  have K := Lib.hid (And.intro k0 (And.intro k1 (And.intro e2 hbx)))
  clear k0 k1 e1 e2 hbx
  by_cases ht : tableB xs = true
  · have F2 := Lib.hid fun o1 o2 => val_eq (v' := .bool true) (F.out o1 o2) (by rw [ht])
    have h0 : 0 < xs.length := ((tableB_iff xs).1 ht).1.1
    have h10 : xs.length ≤ 10 := ((tableB_iff xs).1 ht).1.2
    obtain rfl := HS.out.src.1 h0
    by_cases hij : (0 ≤ i ∧ i < xs.length) ∧ (0 ≤ j ∧ j < xs.length)
    · obtain ⟨p, rfl⟩ : ∃ p : Nat, i = (p : Int) := ⟨i.toNat, by omega⟩
      obtain ⟨q, rfl⟩ : ∃ q : Nat, j = (q : Int) := ⟨j.toNat, by omega⟩
      have hp : p < xs.length := by omega
      have hq : q < xs.length := by omega
      have HT : Hid (swapT xs p q = swapB xs p q ∧ swapR xs p q = true) := Lib.hid (by
        have h1 : swapR xs p q = true := by unfold swapR; rw [ht]; simp; omega
        exact ⟨by unfold swapT; rw [if_pos h1]; simp, h1⟩)
      have G := Lib.hid fun w1 (hb : Below w.heap.size w w1) => Try.slices_Clone_string b o xs.length c xs w1 (Nat.le_refl _) (by omega) (fun j hj => by
        rw [List.getD_eq_getElem?_getD, List.getElem?_eq_getElem hj]
        exact (HS.out.below (w' := w1) hb).src.2 j _ (List.getElem?_eq_getElem hj))
      have HGp : Hid (xs.getD p ⟨#[]⟩ = xs[p]) := Lib.hid (by rw [List.getD_eq_getElem?_getD, List.getElem?_eq_getElem hp]; rfl)
      have HGq : Hid (xs.getD q ⟨#[]⟩ = xs[q]) := Lib.hid (by rw [List.getD_eq_getElem?_getD, List.getElem?_eq_getElem hq]; rfl)
      have hp0 : (0 : Int) ≤ (p : Int) := by omega
      have hp1 : (p : Int) < (xs.length : Int) := by omega
      have hq0 : (0 : Int) ≤ (q : Int) := by omega
      have hq1 : (q : Int) < (xs.length : Int) := by omega
      clear ht F hij
      go_enter Try.func35, Try.ntmps35
      go_wp2_with fail
      refine (F2.out _ _).mono ?_
      rintro e w1 ⟨rfl, hb⟩
      rw [K.out.2.2.1] at hb
      have hB1 := boxed_below K.out.1 hb (by omega)
      have hR1 := boxed_below K.out.2.1 hb (by omega)
      have hc1 := hB1.cell
      have H1 := Lib.hid (And.intro hR1 (And.intro (K.out.2.2.2.trans (hb.mono (by omega))) (Nat.le_trans (by rw [K.out.2.2.1]; exact Nat.le_refl _) hb.size : w.heap.size + 2 ≤ w1.heap.size)))
      clear hb hB1 hR1
      go_wp2_with fail
      refine (G.out w1 H1.out.2.1).mono ?_
      rintro e w2 ⟨v2, rfl, hown, _, hb⟩
      rw [List.take_length] at hown
      obtain ⟨g, cap, rfl, hg1, hg2, hsrc, hopen⟩ := row_src hown h0
      have H2 : Hid (Boxed w2 (w.heap.size + 1) 26 (.slice none 0 0) ∧ Below w.heap.size w w2 ∧ w.heap.size + 2 ≤ g ∧ w2.ownsRow w1.heap.size 9 1 (.slice (some ⟨g, 0, none⟩) xs.length cap) xs.length (xs.map Value.string)) := Lib.hid ⟨boxed_below H1.out.1 hb (by have := H1.out.2.2; omega), H1.out.2.1.trans (hb.mono H1.out.2.1.size), Nat.le_trans H1.out.2.2 hg1, hown⟩
      have hcp : w2.cell? ⟨g, p, none⟩ = some (.string xs[p]) := by have := hsrc.2 p _ (List.getElem?_eq_getElem hp); rwa [Nat.zero_add] at this
      have hcq : w2.cell? ⟨g, q, none⟩ = some (.string xs[q]) := by have := hsrc.2 q _ (List.getElem?_eq_getElem hq); rwa [Nat.zero_add] at this
      have hfp := hopen p hp
      have hfq := hopen q hq
      generalize xs[p] = xp at hcp HGp
      generalize xs[q] = xq at hcq HGq
      clear hb hown hg1 hg2 hsrc hopen hc1
      go_wp2_with fail
      have H3 := H2
      obtain ⟨wd, hwd⟩ : ∃ wd, wd = w2 := ⟨_, rfl⟩
      rw [← hwd] at hcp hcq hfp hfq H3
      obtain ⟨hst, hgs⟩ := H3.out.2.2.2.stored p (.string xq)
      obtain ⟨u, hu⟩ : ∃ u, (wd.setCell ⟨g, p, none⟩ (.string xq)).cell? ⟨g, q, none⟩ = some u := by
        rw [hst.cellAt q (by omega)]
        exact ⟨_, List.getElem?_eq_getElem (by simp; exact hq)⟩
      obtain ⟨hst2, hgs2⟩ := hst.stored q (.string xp)
      have hrb := ((H3.out.1.kept hgs (by intro e; have e2 := Option.some.inj e; have := H3.out.2.2.1; omega)).kept hgs2 (by intro e; have e2 := Option.some.inj e; have := H3.out.2.2.1; omega))
      have hrc := hrb.cell
      have hrf := hrb.frozen
      have hfq3 : (wd.setCell ⟨g, p, none⟩ (.string xq)).frozen? ⟨g, q, none⟩ = false := by rw [World.frozen?_setCell]; exact hfq
      have HFin : Hid (Boxed ((wd.setCell ⟨g, p, none⟩ (.string xq)).setCell ⟨g, q, none⟩ (.string xp)) (w.heap.size + 1) 26 (.slice none 0 0) ∧ Below w.heap.size w ((wd.setCell ⟨g, p, none⟩ (.string xq)).setCell ⟨g, q, none⟩ (.string xp)) ∧ ((wd.setCell ⟨g, p, none⟩ (.string xq)).setCell ⟨g, q, none⟩ (.string xp)).ownsRow w1.heap.size 9 1 (.slice (some ⟨g, 0, none⟩) xs.length cap) xs.length ((swapB xs p q).map Value.string)) := Lib.hid ⟨hrb, (H3.out.2.1.setCell (p := ⟨g, p, none⟩) (by have := H3.out.2.2.1; simp; omega) _).setCell (p := ⟨g, q, none⟩) (by have := H3.out.2.2.1; simp; omega) _, by
        have e : (swapB xs p q).map Value.string = ((xs.map Value.string).set p (.string xq)).set q (.string xp) := by
          unfold swapB
          rw [HGp.out, HGq.out, List.map_set, List.map_set]
        rw [e]; exact hst2⟩
      clear hst hgs hst2 hgs2 hrb
      subst hwd
      go_region
      go_wp2
      refine bodyPost_ret (res_tab2 rfl _ rfl ((HFin.out.1).set _)) rfl ?_
      rw [HT.out.1, HT.out.2]
      have hlen : (swapB xs p q).length = xs.length := by simp [swapB]
      have hrow := HFin.out.2.2
      rw [← hlen] at hrow
      obtain ⟨g', cap', hv, _, _, hsrc, hopen⟩ := row_src hrow (by rw [hlen]; exact h0)
      injection hv with hv1 _ hv3
      injection hv1 with hv4
      injection hv4 with hv5 _ _
      subst hv5
      have HG2 := H3.out.2.2.1
      refine ⟨_, g, cap, by rw [hlen]; rfl, ?_, fun _ => by omega, fun j hj => ?_, (HFin.out.2.1.setCell (p := ⟨w.heap.size + 1, 0, none⟩) (by simp) _).drew⟩
      · refine ⟨fun _ => rfl, fun j x hx => ?_⟩
        show (((wd.setCell ⟨g, p, none⟩ (.string xq)).setCell ⟨g, q, none⟩ (.string xp)).setCell ⟨w.heap.size + 1, 0, none⟩ _).cell? _ = _
        rw [World.cell?_setCell_other _ _ _ _ (by intro e; have e2 := congrArg Addr.block e; simp only at e2; omega)]
        exact hsrc.2 j x hx
      · show (((wd.setCell ⟨g, p, none⟩ (.string xq)).setCell ⟨g, q, none⟩ (.string xp)).setCell ⟨w.heap.size + 1, 0, none⟩ _).frozen? _ = _
        rw [World.frozen?_setCell]
        exact hopen j hj
    · have HT : Hid (swapT xs i j = [] ∧ swapR xs i j = false) := Lib.hid (by
        have h1 : swapR xs i j = false := by
          rw [Bool.eq_false_iff]
          intro h
          unfold swapR at h
          simp only [Bool.and_eq_true, decide_eq_true_eq] at h
          exact hij h.2
        exact ⟨swap_no h1, h1⟩)
      clear ht F
      have hcase : i < 0 ∨ (0 ≤ i ∧ (xs.length : Int) ≤ i) ∨ ((0 ≤ i ∧ i < xs.length) ∧ j < 0) ∨ ((0 ≤ i ∧ i < xs.length) ∧ 0 ≤ j ∧ (xs.length : Int) ≤ j) := by omega
      clear hij
      rcases hcase with h1 | ⟨h1, h2⟩ | ⟨⟨h1, h2⟩, h3⟩ | ⟨⟨h1, h2⟩, h3, h4⟩
      all_goals
        go_enter Try.func35, Try.ntmps35
        go_wp2_with fail
        refine (F2.out _ _).mono ?_
        rintro e w1 ⟨rfl, hb⟩
        rw [K.out.2.2.1] at hb
        have hB1 := boxed_below K.out.1 hb (by omega)
        have hR1 := boxed_below K.out.2.1 hb (by omega)
        have hc1 := hB1.cell
        have hrc := hR1.cell
        have hrf := hR1.frozen
        have H1 := Lib.hid (And.intro hR1 (K.out.2.2.2.trans (hb.mono (by omega))))
        clear hb hR1 hB1
        go_wp2
        refine bodyPost_ret (res_tab2 rfl _ rfl (H1.out.1.set _)) rfl ?_
        rw [HT.out.1, HT.out.2]
        exact tabOut_none (H1.out.2.setCell (p := ⟨w.heap.size + 1, 0, none⟩) (by simp) _)
  · have F2 := Lib.hid fun o1 o2 => val_eq (v' := .bool false) (F.out o1 o2) (by simp [ht])
    have HT : Hid (swapT xs i j = [] ∧ swapR xs i j = false) := Lib.hid (by
      have h1 : swapR xs i j = false := by unfold swapR; simp [ht]
      exact ⟨swap_no h1, h1⟩)
    clear ht F
    go_enter Try.func35, Try.ntmps35
    go_wp2_with fail
    refine (F2.out _ _).mono ?_
    rintro e w1 ⟨rfl, hb⟩
    rw [K.out.2.2.1] at hb
    have hR1 := boxed_below K.out.2.1 hb (by omega)
    have hrc := hR1.cell
    have hrf := hR1.frozen
    have H1 := Lib.hid (And.intro hR1 (K.out.2.2.2.trans (hb.mono (by omega))))
    clear hb hR1
    go_wp2
    refine bodyPost_ret (res_tab2 rfl _ rfl (H1.out.1.set _)) rfl ?_
    rw [HT.out.1, HT.out.2]
    exact tabOut_none (H1.out.2.setCell (p := ⟨w.heap.size + 1, 0, none⟩) (by simp) _)
end Go.Proofs.Ytfjedcjpgmledaa
