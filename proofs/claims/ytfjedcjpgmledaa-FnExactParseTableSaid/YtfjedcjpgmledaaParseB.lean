/-
  ParseTable, the program's and the model's: both answer alike. Used by the claims on chapter 2.
-/
import Derived.Test.YtfjedcjpgmledaaAddB
import Derived.Test.YtfjedcjpgmledaaSplitIW
namespace Go.Proofs.Ytfjedcjpgmledaa
open Go.RowKit
set_option linter.unusedVariables false

def parsR (s : ByteArray) : Bool := tableB (splitS s 44)
def parsT (s : ByteArray) : List ByteArray := if parsR s = true then splitS s 44 else []
theorem parsT_len (s : ByteArray) : (parsT s).length ≤ 10 := by
  unfold parsT
  split
  · next h => exact ((tableB_iff _).1 h).1.2
  · simp
theorem parsR_short {s : ByteArray} (h : parsR s = true) : s.size ≤ 59 := by
  have h1 : tableL ((splitS s 44).map bl) = true := h
  rw [splitS_L] at h1
  have := parse_short h1
  rwa [bl_len] at this
theorem pars_no {s : ByteArray} (h : parsR s = false) : parsT s = [] := by unfold parsT; rw [if_neg (by rw [h]; simp)]
theorem split_parts (s : ByteArray) (b : UInt8) : ∀ x ∈ splitS s b, x.size ≤ s.size := by
  have h1 := len_split b (bl s)
  rw [← splitS_L] at h1
  intro x hx
  have : ∀ xs : List ByteArray, x ∈ xs → x.size + 1 ≤ ((xs.map bl).map (fun y => y.length + 1)).sum := by
    intro xs
    induction xs with
    | nil => intro h; cases h
    | cons y r ih =>
      intro h
      simp only [List.map_cons, List.sum_cons]
      rcases List.mem_cons.1 h with rfl | h
      · rw [bl_len]; omega
      · have := ih h; omega
  have h2 := this _ hx
  rw [bl_len] at h1
  omega

set_option maxHeartbeats 2000000 in
theorem parseT_any (s : ByteArray) (w : World) (hs : s.size ≤ 1048576) :
    Calls Try.prog 43 #[.string s] w (TabOut (parsT s) (parsR s) w) := by
  have k0 := Boxed.new w 26 (.slice none 0 0)
  have hb0 := below_alloc w (.cells #[.slice none 0 0] 26)
  have e0 : (w.alloc (.cells #[.slice none 0 0] 26)).heap.size = w.heap.size + 1 := by simp
  have K := Lib.hid (And.intro k0 (And.intro hb0 e0))
  clear k0 hb0 e0
  by_cases h4 : s.size ≤ 4000
  · have G := Lib.hid fun w => split_ok s 44 h4 w
    obtain ⟨ys, hys⟩ : ∃ ys, ys = splitS s 44 := ⟨_, rfl⟩
    have hyl := splitS_len s 44
    have hyt := split_parts s 44
    rw [← hys] at hyl hyt
    have hylen : 0 < ys.length ∧ ys.length ≤ 1048576 := by omega
    have HTy : Hid (∀ x ∈ ys, x.size ≤ 1048576) := Lib.hid (fun x hx => Nat.le_trans (hyt x hx) hs)
    have HY := Lib.hid hys
    have HRq : Hid (parsR s = tableB ys) := Lib.hid (by unfold parsR; rw [hys])
    clear hyl hyt
    by_cases ht : tableB ys = true
    · have HT : Hid (parsT s = ys ∧ parsR s = true) := Lib.hid (by
        have h1 : parsR s = true := by rw [HRq.out, ht]
        exact ⟨by unfold parsT; rw [if_pos h1, hys], h1⟩)
      have HT4 := Lib.hid ht
      clear ht hys
      go_enter Try.func43, Try.ntmps43
      go_wp2_with fail
      refine (G.out _).mono ?_
      rintro e w1 ⟨v, rfl, hown, hb⟩
      rw [← HY.out, K.out.2.2] at hown
      obtain ⟨g, cap, rfl, hg1, hg2, hsrc, hopen⟩ := row_src hown hylen.1
      have H1 : Hid (Boxed w1 w.heap.size 26 (.slice none 0 0) ∧ Below w.heap.size w w1 ∧ Src w1 (some ⟨g, 0, none⟩) g 0 ys ∧ Open w1 g ys.length ∧ g < w1.heap.size ∧ w.heap.size + 1 ≤ g) := Lib.hid ⟨boxed_below K.out.1 hb (by rw [K.out.2.2]; omega), K.out.2.1.trans (hb.mono (by rw [K.out.2.2]; omega)), hsrc, hopen, hg2, hg1⟩
      have hcell4 := cell_new w1 (.slice (some ⟨g, 0, none⟩) ys.length cap) 26
      have F4 := Lib.hid (val_eq (v' := .bool true) (isTable_any (some ⟨g, 0, none⟩) g 0 cap ys (w1.alloc (.cells #[.slice (some ⟨g, 0, none⟩) ys.length cap] 26)) (⟨H1.out.2.2.1.alloc _, hylen.2, HTy.out⟩ : ListIn _ _ _ _ _)) (by rw [HT4.out]))
      clear hb hown hg1 hg2 hsrc hopen
      go_wp2_with fail
      refine F4.out.mono ?_
      rintro e w5 ⟨rfl, hb⟩
      have hmb := (hb.cell (p := ⟨w1.heap.size, 0, none⟩) (by simp)).trans hcell4
      have hrb : Boxed w5 w.heap.size 26 (.slice none 0 0) := boxed_below (H1.out.1.alloc _) hb (by have := H1.out.2.2.2.2; simp; omega)
      have hrc := hrb.cell
      have hrf := hrb.frozen
      have H5 : Hid (Below w.heap.size w w5 ∧ Src w5 (some ⟨g, 0, none⟩) g 0 ys ∧ Open w5 g ys.length ∧ Boxed w5 w.heap.size 26 (.slice none 0 0)) := Lib.hid ⟨(H1.out.2.1.alloc H1.out.2.1.size _).trans (hb.mono (by have := H1.out.2.1.size; simp; omega)), (H1.out.2.2.1.alloc _).below hb, (H1.out.2.2.2.1.step (below_alloc w1 _) (fun _ => H1.out.2.2.2.2.1)).step hb (fun _ => by have := H1.out.2.2.2.2.1; simp; omega), hrb⟩
      clear hb hrb hcell4 F4
      go_wp2
      refine bodyPost_ret (res_tab2 rfl _ rfl (H5.out.2.2.2.set _)) rfl ?_
      rw [HT.out.1, HT.out.2]
      refine ⟨_, g, _, rfl, ?_, fun _ => by have := H1.out.2.2.2.2.2; omega, fun j hj => ?_, H5.out.1.setCell (p := ⟨w.heap.size, 0, none⟩) (by simp) _⟩
      · refine ⟨fun _ => rfl, fun j x hx => ?_⟩
        rw [World.cell?_setCell_other _ _ _ _ (by intro e; have e2 := congrArg Addr.block e; simp only at e2; have := H1.out.2.2.2.2.2; omega)]
        exact H5.out.2.1.2 j x hx
      · rw [World.frozen?_setCell]
        exact H5.out.2.2.1 j hj
    · have HT : Hid (parsT s = [] ∧ parsR s = false) := Lib.hid (by
        have h1 : parsR s = false := by rw [HRq.out]; simpa using ht
        exact ⟨pars_no h1, h1⟩)
      have HT4 : Hid (tableB ys = false) := Lib.hid (by simpa using ht)
      clear ht hys
      go_enter Try.func43, Try.ntmps43
      go_wp2_with fail
      refine (G.out _).mono ?_
      rintro e w1 ⟨v, rfl, hown, hb⟩
      rw [← HY.out, K.out.2.2] at hown
      obtain ⟨g, cap, rfl, hg1, hg2, hsrc, hopen⟩ := row_src hown hylen.1
      have H1 : Hid (Boxed w1 w.heap.size 26 (.slice none 0 0) ∧ Below w.heap.size w w1 ∧ Src w1 (some ⟨g, 0, none⟩) g 0 ys) := Lib.hid ⟨boxed_below K.out.1 hb (by rw [K.out.2.2]; omega), K.out.2.1.trans (hb.mono (by rw [K.out.2.2]; omega)), hsrc⟩
      have hcell4 := cell_new w1 (.slice (some ⟨g, 0, none⟩) ys.length cap) 26
      have F4 := Lib.hid (val_eq (v' := .bool false) (isTable_any (some ⟨g, 0, none⟩) g 0 cap ys (w1.alloc (.cells #[.slice (some ⟨g, 0, none⟩) ys.length cap] 26)) (⟨H1.out.2.2.alloc _, hylen.2, HTy.out⟩ : ListIn _ _ _ _ _)) (by rw [HT4.out]))
      clear hb hown hg1 hg2 hsrc hopen
      go_wp2_with fail
      refine F4.out.mono ?_
      rintro e w5 ⟨rfl, hb⟩
      have hrb : Boxed w5 w.heap.size 26 (.slice none 0 0) := boxed_below (H1.out.1.alloc _) hb (by have := H1.out.2.1.size; have := H1.out.1.lt; simp; omega)
      have hrc := hrb.cell
      have hrf := hrb.frozen
      have H5 := Lib.hid (And.intro ((H1.out.2.1.alloc H1.out.2.1.size _).trans (hb.mono (by have := H1.out.2.1.size; simp; omega))) hrb)
      clear hb hrb hcell4 F4
      go_wp2
      refine bodyPost_ret (res_tab2 rfl _ rfl (H5.out.2.set _)) rfl ?_
      rw [HT.out.1, HT.out.2]
      exact tabOut_none (H5.out.1.setCell (p := ⟨w.heap.size, 0, none⟩) (by simp) _)
  · have HT : Hid (parsT s = [] ∧ parsR s = false) := Lib.hid (by
      have h1 : parsR s = false := by
        rw [Bool.eq_false_iff]
        intro h
        have := parsR_short h
        omega
      exact ⟨pars_no h1, h1⟩)
    have G : Hid (∀ w, Calls Try.prog 82 #[.string s, .string ⟨#[44]⟩] w fun e w' => e = .returned (.tuple #[.slice (some ⟨w.heap.size, 0, none⟩) 0 0, .bool false]) ∧ w' = w.alloc (.cells #[] 9)) := Lib.hid (fun w => by
      go_enter Try.func82, Try.ntmps82
      go_wp2
      go_ret2
      exact ⟨rfl, rfl⟩)
    clear h4
    go_enter Try.func43, Try.ntmps43
    go_wp2_with fail
    refine (G.out _).mono ?_
    rintro e w1 ⟨rfl, hw1⟩
    have hb : Below (w.alloc (.cells #[.slice none 0 0] 26)).heap.size (w.alloc (.cells #[.slice none 0 0] 26)) w1 := by rw [hw1]; exact below_alloc _ _
    have hrb : Boxed w1 w.heap.size 26 (.slice none 0 0) := boxed_below K.out.1 hb (by rw [K.out.2.2]; omega)
    have hrc := hrb.cell
    have hrf := hrb.frozen
    have H5 := Lib.hid (And.intro (K.out.2.1.trans (hb.mono (by rw [K.out.2.2]; omega))) hrb)
    clear hb hrb hw1
    go_wp2
    refine bodyPost_ret (res_tab2 rfl _ rfl (H5.out.2.set _)) rfl ?_
    rw [HT.out.1, HT.out.2]
    exact tabOut_none (H5.out.1.setCell (p := ⟨w.heap.size, 0, none⟩) (by simp) _)

/-! ### The model's -/
set_option maxHeartbeats 2000000 in
theorem sParse_any (s : ByteArray) (w : World) (hs : s.size ≤ 1048576) :
    Calls Try.prog 83 #[.string s] w (TabOut (parsT s) (parsR s) w) := by
  have k0 := Boxed.new w 26 (.slice none 0 0)
  have hb0 := below_alloc w (.cells #[.slice none 0 0] 26)
  have e0 : (w.alloc (.cells #[.slice none 0 0] 26)).heap.size = w.heap.size + 1 := by simp
  have K := Lib.hid (And.intro k0 (And.intro hb0 e0))
  clear k0 hb0 e0
  by_cases h4 : s.size ≤ 60
  · have G := Lib.hid fun w => l1Split_any s 44 w hs
    obtain ⟨ys, hys⟩ : ∃ ys, ys = splitS s 44 := ⟨_, rfl⟩
    have hyl := splitS_len s 44
    have hyt := split_parts s 44
    rw [← hys] at hyl hyt
    have hylen : 0 < ys.length ∧ ys.length ≤ 1048576 := by omega
    have HTy : Hid (∀ x ∈ ys, x.size ≤ 1048576) := Lib.hid (fun x hx => Nat.le_trans (hyt x hx) hs)
    have HY := Lib.hid hys
    have HRq : Hid (parsR s = tableB ys) := Lib.hid (by unfold parsR; rw [hys])
    clear hyl hyt
    by_cases ht : tableB ys = true
    · have HT : Hid (parsT s = ys ∧ parsR s = true) := Lib.hid (by
        have h1 : parsR s = true := by rw [HRq.out, ht]
        exact ⟨by unfold parsT; rw [if_pos h1, hys], h1⟩)
      have HT4 := Lib.hid ht
      clear ht hys
      go_enter Try.func83, Try.ntmps83
      go_wp2_with fail
      refine (G.out _).mono ?_
      rintro e w1 ⟨v, rfl, hown, hb⟩
      rw [← HY.out, K.out.2.2] at hown
      obtain ⟨g, cap, rfl, hg1, hg2, hsrc, hopen⟩ := row_src hown hylen.1
      have H1 : Hid (Boxed w1 w.heap.size 26 (.slice none 0 0) ∧ Below w.heap.size w w1 ∧ Src w1 (some ⟨g, 0, none⟩) g 0 ys ∧ Open w1 g ys.length ∧ g < w1.heap.size ∧ w.heap.size + 1 ≤ g) := Lib.hid ⟨boxed_below K.out.1 hb (by rw [K.out.2.2]; omega), K.out.2.1.trans (hb.mono (by rw [K.out.2.2]; omega)), hsrc, hopen, hg2, hg1⟩
      have hcell4 := cell_new w1 (.slice (some ⟨g, 0, none⟩) ys.length cap) 26
      have F4 := Lib.hid (val_eq (v' := .bool true) (stable_any (some ⟨g, 0, none⟩) g 0 cap ys (w1.alloc (.cells #[.slice (some ⟨g, 0, none⟩) ys.length cap] 26)) (⟨H1.out.2.2.1.alloc _, hylen.2, HTy.out⟩ : ListIn _ _ _ _ _)) (by rw [HT4.out]))
      clear hb hown hg1 hg2 hsrc hopen
      go_wp2_with fail
      refine F4.out.mono ?_
      rintro e w5 ⟨rfl, hb⟩
      have hmb := (hb.cell (p := ⟨w1.heap.size, 0, none⟩) (by simp)).trans hcell4
      have hrb : Boxed w5 w.heap.size 26 (.slice none 0 0) := boxed_below (H1.out.1.alloc _) hb (by have := H1.out.2.2.2.2; simp; omega)
      have hrc := hrb.cell
      have hrf := hrb.frozen
      have H5 : Hid (Below w.heap.size w w5 ∧ Src w5 (some ⟨g, 0, none⟩) g 0 ys ∧ Open w5 g ys.length ∧ Boxed w5 w.heap.size 26 (.slice none 0 0)) := Lib.hid ⟨(H1.out.2.1.alloc H1.out.2.1.size _).trans (hb.mono (by have := H1.out.2.1.size; simp; omega)), (H1.out.2.2.1.alloc _).below hb, (H1.out.2.2.2.1.step (below_alloc w1 _) (fun _ => H1.out.2.2.2.2.1)).step hb (fun _ => by have := H1.out.2.2.2.2.1; simp; omega), hrb⟩
      clear hb hrb hcell4 F4
      go_wp2
      refine bodyPost_ret (res_tab2 rfl _ rfl (H5.out.2.2.2.set _)) rfl ?_
      rw [HT.out.1, HT.out.2]
      refine ⟨_, g, _, rfl, ?_, fun _ => by have := H1.out.2.2.2.2.2; omega, fun j hj => ?_, H5.out.1.setCell (p := ⟨w.heap.size, 0, none⟩) (by simp) _⟩
      · refine ⟨fun _ => rfl, fun j x hx => ?_⟩
        rw [World.cell?_setCell_other _ _ _ _ (by intro e; have e2 := congrArg Addr.block e; simp only at e2; have := H1.out.2.2.2.2.2; omega)]
        exact H5.out.2.1.2 j x hx
      · rw [World.frozen?_setCell]
        exact H5.out.2.2.1 j hj
    · have HT : Hid (parsT s = [] ∧ parsR s = false) := Lib.hid (by
        have h1 : parsR s = false := by rw [HRq.out]; simpa using ht
        exact ⟨pars_no h1, h1⟩)
      have HT4 : Hid (tableB ys = false) := Lib.hid (by simpa using ht)
      clear ht hys
      go_enter Try.func83, Try.ntmps83
      go_wp2_with fail
      refine (G.out _).mono ?_
      rintro e w1 ⟨v, rfl, hown, hb⟩
      rw [← HY.out, K.out.2.2] at hown
      obtain ⟨g, cap, rfl, hg1, hg2, hsrc, hopen⟩ := row_src hown hylen.1
      have H1 : Hid (Boxed w1 w.heap.size 26 (.slice none 0 0) ∧ Below w.heap.size w w1 ∧ Src w1 (some ⟨g, 0, none⟩) g 0 ys) := Lib.hid ⟨boxed_below K.out.1 hb (by rw [K.out.2.2]; omega), K.out.2.1.trans (hb.mono (by rw [K.out.2.2]; omega)), hsrc⟩
      have hcell4 := cell_new w1 (.slice (some ⟨g, 0, none⟩) ys.length cap) 26
      have F4 := Lib.hid (val_eq (v' := .bool false) (stable_any (some ⟨g, 0, none⟩) g 0 cap ys (w1.alloc (.cells #[.slice (some ⟨g, 0, none⟩) ys.length cap] 26)) (⟨H1.out.2.2.alloc _, hylen.2, HTy.out⟩ : ListIn _ _ _ _ _)) (by rw [HT4.out]))
      clear hb hown hg1 hg2 hsrc hopen
      go_wp2_with fail
      refine F4.out.mono ?_
      rintro e w5 ⟨rfl, hb⟩
      have hrb : Boxed w5 w.heap.size 26 (.slice none 0 0) := boxed_below (H1.out.1.alloc _) hb (by have := H1.out.2.1.size; have := H1.out.1.lt; simp; omega)
      have hrc := hrb.cell
      have hrf := hrb.frozen
      have H5 := Lib.hid (And.intro ((H1.out.2.1.alloc H1.out.2.1.size _).trans (hb.mono (by have := H1.out.2.1.size; simp; omega))) hrb)
      clear hb hrb hcell4 F4
      go_wp2
      refine bodyPost_ret (res_tab2 rfl _ rfl (H5.out.2.set _)) rfl ?_
      rw [HT.out.1, HT.out.2]
      exact tabOut_none (H5.out.1.setCell (p := ⟨w.heap.size, 0, none⟩) (by simp) _)
  · have HT : Hid (parsT s = [] ∧ parsR s = false) := Lib.hid (by
      have h1 : parsR s = false := by
        rw [Bool.eq_false_iff]
        intro h
        have := parsR_short h
        omega
      exact ⟨pars_no h1, h1⟩)
    have hrb := K.out.1
    have hrc := hrb.cell
    have hrf := hrb.frozen
    clear hrb
    go_enter Try.func83, Try.ntmps83
    go_wp2
    refine bodyPost_ret (res_tab2 rfl _ rfl K.out.1) rfl ?_
    rw [HT.out.1, HT.out.2]
    exact tabOut_none K.out.2.1

theorem sParseT_any (s : ByteArray) (w : World) (hs : s.size ≤ 1048576) :
    Calls Try.prog 44 #[.string s] w (TabOut (parsT s) (parsR s) w) := by
  have k0 := Boxed.new w 26 (.slice none 0 0)
  have hb0 := below_alloc w (.cells #[.slice none 0 0] 26)
  have e0 : (w.alloc (.cells #[.slice none 0 0] 26)).heap.size = w.heap.size + 1 := by simp
  have K := Lib.hid (And.intro k0 (And.intro hb0 e0))
  have G := Lib.hid fun w => sParse_any s w hs
  clear k0 hb0 e0
  go_enter Try.func44, Try.ntmps44
  go_wp2_with fail
  refine (G.out _).mono ?_
  rintro e w1 ⟨a, g, c, rfl, hsrc, hfr, hop, hb⟩
  rw [K.out.2.2] at hfr
  have hrb : Boxed w1 w.heap.size 26 (.slice none 0 0) := boxed_below K.out.1 hb (by rw [K.out.2.2]; omega)
  have hrc := hrb.cell
  have hrf := hrb.frozen
  have H5 := Lib.hid (And.intro (K.out.2.1.trans (hb.mono (by rw [K.out.2.2]; omega))) (And.intro hrb (And.intro hsrc (And.intro hfr hop))))
  clear hb hrb hsrc hfr hop
  go_wp2
  refine bodyPost_ret (res_tab2 rfl _ rfl (H5.out.2.1.set _)) rfl ?_
  refine ⟨_, g, _, rfl, ?_, fun h => by have := H5.out.2.2.2.1 h; omega, fun j hj => ?_, H5.out.1.setCell (p := ⟨w.heap.size, 0, none⟩) (by simp) _⟩
  · refine ⟨H5.out.2.2.1.1, fun j x hx => ?_⟩
    have h0 : 0 < (parsT s).length := Nat.lt_of_le_of_lt (Nat.zero_le _) (List.getElem?_eq_some_iff.1 hx).1
    rw [World.cell?_setCell_other _ _ _ _ (by intro e; have e2 := congrArg Addr.block e; simp only at e2; have := H5.out.2.2.2.1 h0; omega)]
    exact H5.out.2.2.1.2 j x hx
  · rw [World.frozen?_setCell]
    exact H5.out.2.2.2.2 j hj

theorem parseTable_both (s : ByteArray) (hs : s.size ≤ 1048576) : ∃ (ys : List ByteArray) (R1 : Bool), ys.length ≤ 10 ∧
    Hid (∀ W, Calls Try.prog 44 #[.string s] W (TabOut ys R1 W)) ∧
    Hid (∀ W, Calls Try.prog 43 #[.string s] W (TabOut ys R1 W)) :=
  ⟨parsT s, parsR s, parsT_len s, fun W => sParseT_any s W hs, fun W => parseT_any s W hs⟩
end Go.Proofs.Ytfjedcjpgmledaa
