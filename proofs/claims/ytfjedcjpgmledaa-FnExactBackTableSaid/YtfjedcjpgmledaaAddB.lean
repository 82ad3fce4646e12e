/-
  AddLetter, the program's and the model's: both answer alike; the model's l2Own. Used by the claims on chapter 2.
-/
import Derived.Test.YtfjedcjpgmledaaIsTableB
import Derived.Test.YtfjedcjpgmledaaShelf
import Derived.Test.YtfjedcjpgmledaaMarkT
namespace Go.Proofs.Ytfjedcjpgmledaa
open Go.RowKit
set_option linter.unusedVariables false

/-- A row of texts of one's own, as a list in memory. -/
theorem row_src {w : World} {base : Nat} {v : Value} {ys : List ByteArray} (h : w.ownsRow base 9 1 v ys.length (ys.map Value.string)) (h0 : 0 < ys.length) : ∃ g cap, v = .slice (some ⟨g, 0, none⟩) ys.length cap ∧ base ≤ g ∧ g < w.heap.size ∧ Src w (some ⟨g, 0, none⟩) g 0 ys ∧ Open w g ys.length := by
  have h' := h
  rcases h.2 with ⟨_, h1⟩ | ⟨g, cap, cur, rfl, hg, hh, _⟩
  · omega
  · refine ⟨g, cap, rfl, hg, (Array.getElem?_eq_some_iff.1 hh).1, ⟨fun _ => rfl, fun j x hx => ?_⟩, fun j _ => by simp [World.frozen?, hh]⟩
    have := h'.cells (g := g) rfl j (.string x) (by simp [hx])
    rw [Addr.add_lit] at this
    exact this
theorem grown_keep {w w' : World} {p : Addr} {v : Value} {q : Option Nat} (h : w.cell? p = some v) (hg : w.grownBy w' q) (hne : some p.block ≠ q) : w'.cell? p = some v :=
  (World.cell?_of_block (w := w) (a := p) (hg.block p.block (World.block_lt_of_cell? _ _ h) hne)).trans h
theorem boxed_grown {w w' : World} {g : Nat} {t : TypeId} {v : Value} {q : Option Nat} (h : Boxed w g t v) (hg : w.grownBy w' q) (hne : some g ≠ q) : Boxed w' g t v := h.kept hg hne

def addR (xs : List ByteArray) (m : ByteArray) : Bool := tableB xs && tableB (xs ++ [m])
def addT (xs : List ByteArray) (m : ByteArray) : List ByteArray := if addR xs m = true then xs ++ [m] else []
theorem addT_len (xs : List ByteArray) (m : ByteArray) : (addT xs m).length ≤ 10 := by
  unfold addT
  split
  · next h =>
    unfold addR at h
    rw [Bool.and_eq_true] at h
    exact ((tableB_iff _).1 h.2).1.2
  · simp
theorem add_no {xs : List ByteArray} {m : ByteArray} (h : addR xs m = false) : addT xs m = [] := by unfold addT; rw [if_neg (by rw [h]; simp)]

set_option maxHeartbeats 2000000 in
theorem addLetter_any (a : Option Addr) (b o c : Nat) (xs : List ByteArray) (m : ByteArray) (w : World) (h : ListIn w a b o xs) (hm : m.size ≤ 1048576) :
    Calls Try.prog 32 #[.agg #[.slice a xs.length c], .string m] w (TabOut (addT xs m) (addR xs m) w) := by
  have hl := h.len
  have hbx := (below_alloc w (.cells #[.slice a xs.length c] 26)).alloc (by simp) (.cells #[.slice none 0 0] 26)
  have F := Lib.hid fun o1 o2 => isTable_any a b o c xs ((w.alloc o1).alloc o2) (h.below ((below_alloc w o1).alloc (by simp) o2))
  have HS := Lib.hid h
  clear h
  have k0 := (Boxed.new w 26 (.slice a xs.length c)).alloc (.cells #[.slice none 0 0] 26)
  have k1 := Boxed.new (w.alloc (.cells #[.slice a xs.length c] 26)) 26 (.slice none 0 0)
  have e1 : (w.alloc (.cells #[.slice a xs.length c] 26)).heap.size = w.heap.size + 1 := by simp
  have e2 : ((w.alloc (.cells #[.slice a xs.length c] 26)).alloc (.cells #[.slice none 0 0] 26)).heap.size = w.heap.size + 2 := by simp
  rw [e1] at k1
  by_cases ht : tableB xs = true
  · have F2 := Lib.hid fun o1 o2 => val_eq (v' := .bool true) (F.out o1 o2) (by rw [ht])
    have h0 : 0 < xs.length := ((tableB_iff xs).1 ht).1.1
    have h10 : xs.length ≤ 10 := ((tableB_iff xs).1 ht).1.2
    obtain rfl := HS.out.src.1 h0
    have G := Lib.hid fun w1 (hb : Below w.heap.size w w1) => Try.slices_Clone_string b o xs.length c xs w1 (Nat.le_refl _) (by omega) (fun j hj => by
      rw [List.getD_eq_getElem?_getD, List.getElem?_eq_getElem hj]
      exact (HS.out.below (w' := w1) hb).src.2 j _ (List.getElem?_eq_getElem hj))
    have HRq : Hid (addR xs m = tableB (xs ++ [m])) := Lib.hid (by unfold addR; rw [ht]; rfl)
    obtain ⟨i0, hi, hz0, hz1, hz2⟩ := info_parts infoStr
    have K := Lib.hid (And.intro k0 (And.intro k1 (And.intro e2 hbx)))
    have HTx := Lib.hid HS.out.texts
    clear ht F k0 k1 e1 e2 hbx
    obtain ⟨ys, hys⟩ : ∃ ys, ys = xs ++ [m] := ⟨_, rfl⟩
    have HY : Hid (ys = xs ++ [m] ∧ ys.length = xs.length + 1) := Lib.hid ⟨hys, by rw [hys]; simp⟩
    rw [← hys] at HRq
    have hylen : 0 < ys.length ∧ ys.length ≤ 1048576 := by rw [HY.out.2]; omega
    have HTy : Hid (∀ x ∈ ys, x.size ≤ 1048576) := Lib.hid (fun x hx => by
      rw [hys] at hx
      rcases List.mem_append.1 hx with h | h
      · exact HTx.out x h
      · simp at h; subst h; exact hm)
    by_cases h4 : tableB ys = true
    · have HT4 : Hid (tableB ys = true) := Lib.hid (by simpa using h4)
      clear h4 hys
      go_enter Try.func32, Try.ntmps32
      go_wp2_with fail
      refine (F2.out _ _).mono ?_
      rintro e w1 ⟨rfl, hb⟩
      rw [K.out.2.2.1] at hb
      have hB1 := boxed_below K.out.1 hb (by omega)
      have hR1 := boxed_below K.out.2.1 hb (by omega)
      have hc1 := hB1.cell
      have hBel : Below w.heap.size w w1 := K.out.2.2.2.trans (hb.mono (by omega))
      have hsz : w.heap.size + 2 ≤ w1.heap.size := Nat.le_trans (by rw [K.out.2.2.1]; exact Nat.le_refl _) hb.size
      have H1 := Lib.hid (And.intro hR1 (And.intro hBel hsz))
      clear hb hB1 hR1 hBel hsz
      go_wp2_with fail
      refine (G.out w1 H1.out.2.1).mono ?_
      rintro e w2 ⟨v2, rfl, hown, _, hb⟩
      rw [List.take_length] at hown
      have hsz2 : w1.heap.size ≤ w2.heap.size := hb.size
      have H2 : Hid (Boxed w2 (w.heap.size + 1) 26 (.slice none 0 0) ∧ Below w.heap.size w w2 ∧ w.heap.size + 2 ≤ w1.heap.size) := Lib.hid ⟨boxed_below H1.out.1 hb (by have := H1.out.2.2; omega), H1.out.2.1.trans (hb.mono H1.out.2.1.size), H1.out.2.2⟩
      clear hb hc1
      go_wp2_with (at_builtin; refine wpList_append_own _ rfl _ _ 24 rfl w1.heap.size 9 i0 (.string ByteArray.empty) 1 16 Try.underlying24 hi hz0 hz1 hz2 rfl (by decide) _ _ _ rfl (hown.alloc _) ⟨w2.heap.size, 0, none⟩ 1 1 [.string m] rfl rfl (cell_one_new _ _ _) (by simp [Value.oneCell']) (by unfold maxLen; omega) (by omega) (by simp; omega) ?_; intro v3 w3 hown' hgrow _; have hown3 : w3.ownsRow w1.heap.size 9 1 v3 ys.length (ys.map Value.string) := (by rw [HY.out.2, HY.out.1]; simpa using hown'); obtain ⟨g, cap, rfl, hg1, hg2, hsrc, hopen⟩ := row_src hown3 hylen.1; have hgr3 := (World.grownBy_alloc w2 (.cells #[.string m] 9) v2.ownBlock).trans hgrow; have hlt2 := hown.lt; have H3 : Hid (Boxed w3 (w.heap.size + 1) 26 (.slice none 0 0) ∧ Below w.heap.size w w3 ∧ Src w3 (some ⟨g, 0, none⟩) g 0 ys ∧ Open w3 g ys.length ∧ g < w3.heap.size ∧ w.heap.size + 2 ≤ g) := Lib.hid ⟨boxed_grown H2.out.1 hgr3 (fun e => by have := (hlt2 _ e.symm).1; have := H2.out.2.2; omega), H2.out.2.1.grown hgr3 H2.out.2.1.size (fun j e => by have := (hlt2 _ e).1; have := H2.out.2.2; omega), hsrc, hopen, hg2, Nat.le_trans H2.out.2.2 hg1⟩; clear hown' hgrow hown3 hg1 hg2 hsrc hopen hgr3 hlt2 hown; have hcell4 := cell_new w3 (.slice (some ⟨g, 0, none⟩) ys.length cap) 26; have F4 := Lib.hid (val_eq (v' := .bool true) (isTable_any (some ⟨g, 0, none⟩) g 0 cap ys (w3.alloc (.cells #[.slice (some ⟨g, 0, none⟩) ys.length cap] 26)) (⟨H3.out.2.2.1.alloc _, hylen.2, HTy.out⟩ : ListIn _ _ _ _ _)) (by rw [HT4.out])))
      refine F4.out.mono ?_
      rintro e w5 ⟨rfl, hb⟩
      have hmb := (hb.cell (p := ⟨w3.heap.size, 0, none⟩) (by simp)).trans hcell4
      have hrb : Boxed w5 (w.heap.size + 1) 26 (.slice none 0 0) := boxed_below (H3.out.1.alloc _) hb (by have := H3.out.2.2.2.2; simp; omega)
      have hrc := hrb.cell
      have hrf := hrb.frozen
      have H5 : Hid (Below w.heap.size w w5 ∧ Src w5 (some ⟨g, 0, none⟩) g 0 ys ∧ Open w5 g ys.length ∧ Boxed w5 (w.heap.size + 1) 26 (.slice none 0 0)) := Lib.hid ⟨(H3.out.2.1.alloc H3.out.2.1.size _).trans (hb.mono (by have := H3.out.2.1.size; simp; omega)), (H3.out.2.2.1.alloc _).below hb, (H3.out.2.2.2.1.step (below_alloc w3 _) (fun _ => H3.out.2.2.2.2.1)).step hb (fun _ => by have := H3.out.2.2.2.2.1; simp; omega), hrb⟩
      clear hb hrb hcell4 F4
      go_wp2
      have HT : Hid (addT xs m = ys ∧ addR xs m = true) := Lib.hid (by
        have h1 : addR xs m = true := by rw [HRq.out, HT4.out]
        exact ⟨by rw [HY.out.1]; exact if_pos h1, h1⟩)
      refine bodyPost_ret (res_tab2 rfl _ rfl (H5.out.2.2.2.set _)) rfl ?_
      rw [HT.out.1, HT.out.2]
      refine ⟨_, g, _, rfl, ?_, fun _ => by have := H3.out.2.2.2.2.2; omega, fun j hj => ?_, H5.out.1.setCell (p := ⟨w.heap.size + 1, 0, none⟩) (by simp) _⟩
      · refine ⟨fun _ => rfl, fun j x hx => ?_⟩
        rw [World.cell?_setCell_other _ _ _ _ (by intro e; have e2 := congrArg Addr.block e; simp only at e2; have := H3.out.2.2.2.2.2; omega)]
        exact H5.out.2.1.2 j x hx
      · rw [World.frozen?_setCell]
        exact H5.out.2.2.1 j hj
    · have HT4 : Hid (tableB ys = false) := Lib.hid (by simpa using h4)
      clear h4 hys
      go_enter Try.func32, Try.ntmps32
      go_wp2_with fail
      refine (F2.out _ _).mono ?_
      rintro e w1 ⟨rfl, hb⟩
      rw [K.out.2.2.1] at hb
      have hB1 := boxed_below K.out.1 hb (by omega)
      have hR1 := boxed_below K.out.2.1 hb (by omega)
      have hc1 := hB1.cell
      have hBel : Below w.heap.size w w1 := K.out.2.2.2.trans (hb.mono (by omega))
      have hsz : w.heap.size + 2 ≤ w1.heap.size := Nat.le_trans (by rw [K.out.2.2.1]; exact Nat.le_refl _) hb.size
      have H1 := Lib.hid (And.intro hR1 (And.intro hBel hsz))
      clear hb hB1 hR1 hBel hsz
      go_wp2_with fail
      refine (G.out w1 H1.out.2.1).mono ?_
      rintro e w2 ⟨v2, rfl, hown, _, hb⟩
      rw [List.take_length] at hown
      have hsz2 : w1.heap.size ≤ w2.heap.size := hb.size
      have H2 : Hid (Boxed w2 (w.heap.size + 1) 26 (.slice none 0 0) ∧ Below w.heap.size w w2 ∧ w.heap.size + 2 ≤ w1.heap.size) := Lib.hid ⟨boxed_below H1.out.1 hb (by have := H1.out.2.2; omega), H1.out.2.1.trans (hb.mono H1.out.2.1.size), H1.out.2.2⟩
      clear hb hc1
      go_wp2_with (at_builtin; refine wpList_append_own _ rfl _ _ 24 rfl w1.heap.size 9 i0 (.string ByteArray.empty) 1 16 Try.underlying24 hi hz0 hz1 hz2 rfl (by decide) _ _ _ rfl (hown.alloc _) ⟨w2.heap.size, 0, none⟩ 1 1 [.string m] rfl rfl (cell_one_new _ _ _) (by simp [Value.oneCell']) (by unfold maxLen; omega) (by omega) (by simp; omega) ?_; intro v3 w3 hown' hgrow _; have hown3 : w3.ownsRow w1.heap.size 9 1 v3 ys.length (ys.map Value.string) := (by rw [HY.out.2, HY.out.1]; simpa using hown'); obtain ⟨g, cap, rfl, hg1, hg2, hsrc, hopen⟩ := row_src hown3 hylen.1; have hgr3 := (World.grownBy_alloc w2 (.cells #[.string m] 9) v2.ownBlock).trans hgrow; have hlt2 := hown.lt; have H3 : Hid (Boxed w3 (w.heap.size + 1) 26 (.slice none 0 0) ∧ Below w.heap.size w w3 ∧ Src w3 (some ⟨g, 0, none⟩) g 0 ys ∧ Open w3 g ys.length ∧ g < w3.heap.size ∧ w.heap.size + 2 ≤ g) := Lib.hid ⟨boxed_grown H2.out.1 hgr3 (fun e => by have := (hlt2 _ e.symm).1; have := H2.out.2.2; omega), H2.out.2.1.grown hgr3 H2.out.2.1.size (fun j e => by have := (hlt2 _ e).1; have := H2.out.2.2; omega), hsrc, hopen, hg2, Nat.le_trans H2.out.2.2 hg1⟩; clear hown' hgrow hown3 hg1 hg2 hsrc hopen hgr3 hlt2 hown; have hcell4 := cell_new w3 (.slice (some ⟨g, 0, none⟩) ys.length cap) 26; have F4 := Lib.hid (val_eq (v' := .bool false) (isTable_any (some ⟨g, 0, none⟩) g 0 cap ys (w3.alloc (.cells #[.slice (some ⟨g, 0, none⟩) ys.length cap] 26)) (⟨H3.out.2.2.1.alloc _, hylen.2, HTy.out⟩ : ListIn _ _ _ _ _)) (by rw [HT4.out])))
      refine F4.out.mono ?_
      rintro e w5 ⟨rfl, hb⟩
      have hmb := (hb.cell (p := ⟨w3.heap.size, 0, none⟩) (by simp)).trans hcell4
      have hrb : Boxed w5 (w.heap.size + 1) 26 (.slice none 0 0) := boxed_below (H3.out.1.alloc _) hb (by have := H3.out.2.2.2.2; simp; omega)
      have hrc := hrb.cell
      have hrf := hrb.frozen
      have H5 : Hid (Below w.heap.size w w5 ∧ Src w5 (some ⟨g, 0, none⟩) g 0 ys ∧ Open w5 g ys.length ∧ Boxed w5 (w.heap.size + 1) 26 (.slice none 0 0)) := Lib.hid ⟨(H3.out.2.1.alloc H3.out.2.1.size _).trans (hb.mono (by have := H3.out.2.1.size; simp; omega)), (H3.out.2.2.1.alloc _).below hb, (H3.out.2.2.2.1.step (below_alloc w3 _) (fun _ => H3.out.2.2.2.2.1)).step hb (fun _ => by have := H3.out.2.2.2.2.1; simp; omega), hrb⟩
      clear hb hrb hcell4 F4
      go_wp2
      have HT : Hid (addT xs m = [] ∧ addR xs m = false) := Lib.hid (by
        have h1 : addR xs m = false := by rw [HRq.out, HT4.out]
        exact ⟨add_no h1, h1⟩)
      refine bodyPost_ret (res_tab2 rfl _ rfl (H5.out.2.2.2.set _)) rfl ?_
      rw [HT.out.1, HT.out.2]
      exact tabOut_none (H5.out.1.setCell (p := ⟨w.heap.size + 1, 0, none⟩) (by simp) _)
  · have F2 := Lib.hid fun o1 o2 => val_eq (v' := .bool false) (F.out o1 o2) (by simp [ht])
    have HT : Hid (addT xs m = [] ∧ addR xs m = false) := Lib.hid (by
      have h1 : addR xs m = false := by unfold addR; simp [ht]
      exact ⟨add_no h1, h1⟩)
    have K := Lib.hid (And.intro k0 (And.intro k1 (And.intro e2 hbx)))
    clear ht F k0 k1 e1 e2 hbx
    go_enter Try.func32, Try.ntmps32
    go_wp2_with fail
    refine (F2.out _ _).mono ?_
    rintro e w1 ⟨rfl, hb⟩
    rw [K.out.2.2.1] at hb
    have hR1 := boxed_below K.out.2.1 hb (by omega)
    have hrc := hR1.cell
    have hrf := hR1.frozen
    have H1 := Lib.hid (And.intro hR1 (K.out.2.2.2.trans (hb.mono (by omega))))
    clear hb hR1
    go_wp2
    refine bodyPost_ret (res_tab2 rfl _ rfl (H1.out.1.set _)) rfl ?_
    rw [HT.out.1, HT.out.2]
    exact tabOut_none (H1.out.2.setCell (p := ⟨w.heap.size + 1, 0, none⟩) (by simp) _)
end Go.Proofs.Ytfjedcjpgmledaa
