/-
  ChanceRead, the program's and the model's: both answer alike. Used by the claims on chapter 7.
-/
import Derived.Test.YtomhjfjfmjacfaaTabN
import Derived.Deep.RegionHeldLaw
namespace Go.Proofs.Ytomhjfjfmjacfaa
open Go.RowKit
set_option linter.unusedVariables false

theorem cell_belowT {W W' : World} {p : Addr} {v : Value} (hb : Below W.heap.size W W') (h : W.cell? p = some v) : W'.cell? p = some v := (hb.cell (World.block_lt_of_cell? _ _ h)).trans h
theorem keep2 {W : World} {g g2 o2 : Nat} {u v0 v1 : Value} (h : W.cell? ⟨g2, o2, none⟩ = some u) (hne : g ≠ g2) : ((W.setCell ⟨g, 0, none⟩ v0).setCell ⟨g, 1, none⟩ v1).cell? ⟨g2, o2, none⟩ = some u := by
  rw [World.cell?_setCell_far _ _ _ _ hne, World.cell?_setCell_far _ _ _ _ hne]; exact h
def crR (N d : Int) (xs : List ByteArray) (i k : Int) : (Nat × Nat) × Bool :=
  if (marksR xs i).2 = true ∧ (marksR xs k).2 = true then ccR N d (marksR xs i).1 (marksR xs k).1 else ((0, 0), false)
theorem marksR_size {xs : List ByteArray} (h : ∀ x ∈ xs, x.size ≤ 1048576) (i : Int) : (marksR xs i).1.size ≤ maxLen := by
  unfold maxLen
  rcases marksR_cases xs i with e | ⟨n, rfl, hn, ht, e⟩
  · rw [marksR_no e]; decide
  · rw [e]; have := h _ (List.getElem_mem hn); exact Nat.le_trans this (by omega)

set_option maxHeartbeats 2000000 in
set_option maxRecDepth 20000 in
theorem chanceRead_any (a : Option Addr) (b o c : Nat) (xs : List ByteArray) (N d i k : Int) (w : World) (h : ListIn w a b o xs) :
    Calls Try.prog 24 #[.agg #[.slice a xs.length c], .agg #[.int .i64 N, .int .i64 d], .int .i64 i, .int .i64 k] w fun e w' => e = .returned (.tuple #[.agg #[.int .i64 ((crR N d xs i k).1.1 : Int), .int .i64 ((crR N d xs i k).1.2 : Int)], .bool (crR N d xs i k).2]) ∧ Below w.heap.size w w' := by
  have HC0 := Lib.hid (carT_new w a b o c xs N d h)
  have HC := Lib.hid (HC0.out.step (below_alloc _ (.cells #[.int .i64 0, .int .i64 0] 28)))
  have HT := Lib.hid (res_new w (.cells #[.slice a xs.length c] 38) (.cells #[.int .i64 N, .int .i64 d] 25))
  have F1 := Lib.hid fun W h => marksOf_any a b o c xs i W h
  have F2 := Lib.hid fun W h => marksOf_any a b o c xs k W h
  have F3 := Lib.hid fun W => comes_any N d (marksR xs i).1 (marksR xs k).1 W (marksR_size h.texts i) (marksR_size h.texts k)
  have l1 := HC.out.tab
  clear HC0 h
  have HR : Hid (crR N d xs i k = if (marksR xs i).2 = true ∧ (marksR xs k).2 = true then ccR N d (marksR xs i).1 (marksR xs k).1 else ((0, 0), false)) := Lib.hid rfl
  generalize crR N d xs i k = R at HR ⊢
  generalize (marksR xs i).1 = s1 at F1 F3 HR
  generalize (marksR xs i).2 = o1 at F1 HR
  generalize (marksR xs k).1 = s2 at F2 F3 HR
  generalize (marksR xs k).2 = o2 at F2 HR
  cases o1 with
  | false =>
    have HR := Lib.hid (HR.out.trans (if_neg (fun h => by simp at h)))
    rw [HR.out]
    go_enter Try.func24, Try.ntmps24
    go_wp2_with fail
    refine (F1.out _ HC.out.lst).mono ?_
    rintro e w1 ⟨rfl, hb⟩
    have HC1 := Lib.hid (HC.out.step hb)
    have HT1 := Lib.hid (HT.out.below hb)
    have l2 := HC1.out.tab
    clear hb l1
    go_wp2_with fail
    refine (F2.out _ HC1.out.lst).mono ?_
    rintro e w2 ⟨rfl, hb⟩
    have HC2 := Lib.hid (HC1.out.step hb)
    have HT2 := Lib.hid (HT1.out.below hb)
    have f0 := HT2.out.frozen 0
    have f1 := HT2.out.frozen 1
    have k0 := HT2.out.cell0
    have k1 := HT2.out.cell1
    clear hb l2
    go_wp2
    refine bodyPost_ret (res_two rfl _ rfl ((HT2.out.set0 _).set1 _)) rfl ?_
    exact ⟨rfl, (HC2.out.below.setCell (p := ⟨w.heap.size + 1 + 1, 0, none⟩) (by simp; omega) _).setCell (p := ⟨w.heap.size + 1 + 1, 1, none⟩) (by simp; omega) _⟩
  | true =>
    cases o2 with
    | false =>
      have HR := Lib.hid (HR.out.trans (if_neg (fun h => by simp at h)))
      rw [HR.out]
      go_enter Try.func24, Try.ntmps24
      go_wp2_with fail
      refine (F1.out _ HC.out.lst).mono ?_
      rintro e w1 ⟨rfl, hb⟩
      have HC1 := Lib.hid (HC.out.step hb)
      have HT1 := Lib.hid (HT.out.below hb)
      have l2 := HC1.out.tab
      clear hb l1
      go_wp2_with fail
      refine (F2.out _ HC1.out.lst).mono ?_
      rintro e w2 ⟨rfl, hb⟩
      have HC2 := Lib.hid (HC1.out.step hb)
      have HT2 := Lib.hid (HT1.out.below hb)
      have f0 := HT2.out.frozen 0
      have f1 := HT2.out.frozen 1
      have k0 := HT2.out.cell0
      have k1 := HT2.out.cell1
      clear hb l2
      go_wp2
      refine bodyPost_ret (res_two rfl _ rfl ((HT2.out.set0 _).set1 _)) rfl ?_
      exact ⟨rfl, (HC2.out.below.setCell (p := ⟨w.heap.size + 1 + 1, 0, none⟩) (by simp; omega) _).setCell (p := ⟨w.heap.size + 1 + 1, 1, none⟩) (by simp; omega) _⟩
    | true =>
      have HR := Lib.hid (HR.out.trans (if_pos ⟨rfl, rfl⟩))
      rw [HR.out]
      generalize ccR N d s1 s2 = R2 at F3 ⊢
      obtain ⟨⟨r1, r2⟩, r3⟩ := R2
      go_enter Try.func24, Try.ntmps24
      go_wp2_with fail
      refine (F1.out _ HC.out.lst).mono ?_
      rintro e w1 ⟨rfl, hb⟩
      have HC1 := Lib.hid (HC.out.step hb)
      have HT1 := Lib.hid (HT.out.below hb)
      have l2 := HC1.out.tab
      clear hb l1
      go_wp2_with fail
      refine (F2.out _ HC1.out.lst).mono ?_
      rintro e w2 ⟨rfl, hb⟩
      have HC2 := Lib.hid (HC1.out.step hb)
      have HT2 := Lib.hid (HT1.out.below hb)
      have k0 := HC2.out.noi.cell0
      have k1 := HC2.out.noi.cell1
      clear hb l2
      go_wp2_with fail
      refine (F3.out _).mono ?_
      rintro e w3 ⟨rfl, hb⟩
      have HC3 := Lib.hid (HC2.out.step hb)
      have HT3 := Lib.hid (HT2.out.below hb)
      clear hb k0 k1
      have f0 := HT3.out.frozen 0
      have f1 := HT3.out.frozen 1
      have k0 := HT3.out.cell0
      have k1 := HT3.out.cell1
      go_wp2
      refine bodyPost_ret (res_two rfl _ rfl ((HT3.out.set0 _).set1 _)) rfl ?_
      exact ⟨rfl, (HC3.out.below.setCell (p := ⟨w.heap.size + 1 + 1, 0, none⟩) (by simp; omega) _).setCell (p := ⟨w.heap.size + 1 + 1, 1, none⟩) (by simp; omega) _⟩

/-! ### The model's -/
theorem crR_no {N d : Int} {xs : List ByteArray} {i k : Int} (h : ltrB N d xs i = false ∨ ltrB N d xs k = false) : crR N d xs i k = ((0, 0), false) := by
  rw [ltrB_marks, ltrB_marks] at h
  unfold crR
  split
  · rename_i e
    rw [e.1, e.2, Bool.and_true] at h
    unfold ccR
    rw [if_neg (fun h2 => by rw [h2.1] at h; simp at h)]
  · rfl
theorem crR_yes {N d : Int} {xs : List ByteArray} {i k : Int} (h1 : ltrB N d xs i = true) (h2 : ltrB N d xs k = true) : ∃ (p q e i' k' : Nat) (hi : i' < xs.length) (hk : k' < xs.length), N = (p : Int) ∧ d = (e : Int) ∧ e = p + q ∧ 1 ≤ e ∧ e ≤ 100 ∧ i = (i' : Int) ∧ k = (k' : Int) ∧ xs[i'].size ≤ 5 ∧ xs[k'].size ≤ 5 ∧ crR N d xs i k = (frN p q (bl xs[i']) (bl xs[k']), true) := by
  rw [ltrB_marks, Bool.and_eq_true] at h1 h2
  rcases marksR_cases xs i with e1 | ⟨i', rfl, hi, ht, e1⟩
  · rw [e1] at h1; exact absurd h1.2 (by decide)
  rcases marksR_cases xs k with e2 | ⟨k', rfl, hk, _, e2⟩
  · rw [e2] at h2; exact absurd h2.2 (by decide)
  obtain ⟨p, q, hN, hd, g1, g2⟩ := goodN_iff.1 h1.1
  have m1 := tab_good ht hi
  have m2 := tab_good ht hk
  refine ⟨p, q, p + q, i', k', hi, hk, hN, hd, rfl, g1, g2, rfl, rfl, ?_, ?_, ?_⟩
  · have := marks_len m1; rw [bl_len] at this; exact this.2
  · have := marks_len m2; rw [bl_len] at this; exact this.2
  · unfold crR
    rw [e1, e2, if_pos ⟨rfl, rfl⟩]
    unfold ccR
    rw [if_pos ⟨h1.1, m1, m2⟩, hN, hd]
    have e3 : (p : Int).toNat = p := by omega
    have e4 : (((p + q : Nat) : Int) - (p : Int)).toNat = q := by omega
    rw [e3, e4]

set_option maxHeartbeats 2000000 in
set_option maxRecDepth 20000 in
theorem sChanceRead_any (a : Option Addr) (b o c : Nat) (xs : List ByteArray) (N d i k : Int) (w : World) (h : ListIn w a b o xs) :
    Calls Try.prog 22 #[.agg #[.slice a xs.length c], .agg #[.int .i64 N, .int .i64 d], .int .i64 i, .int .i64 k] w fun e w' => e = .returned (.tuple #[.agg #[.int .i64 ((crR N d xs i k).1.1 : Int), .int .i64 ((crR N d xs i k).1.2 : Int)], .bool (crR N d xs i k).2]) ∧ Below w.heap.size w w' := by
  have hl := h.len
  have HC0 := Lib.hid (carT_new w a b o c xs N d h)
  have HC := Lib.hid (HC0.out.step (below_alloc _ (.cells #[.int .i64 0, .int .i64 0] 28)))
  have HT := Lib.hid (res_new w (.cells #[.slice a xs.length c] 38) (.cells #[.int .i64 N, .int .i64 d] 25))
  have F1 := Lib.hid fun W h => sLetter_any a b o c xs N d i W h
  have F2 := Lib.hid fun W h => sLetter_any a b o c xs N d k W h
  have l1 := HC.out.tab
  have l2 := HC.out.noi.cell0
  have l3 := HC.out.noi.cell1
  have l4 := load_noi HC.out.noi
  clear HC0
  cases h1 : ltrB N d xs i with
  | false =>
    have HR := Lib.hid (crR_no (k := k) (.inl h1))
    rw [HR.out]
    rw [h1] at F1
    clear h h1
    go_enter Try.func22, Try.ntmps22
    go_wp2_with fail
    refine (F1.out _ HC.out.lst).mono ?_
    rintro e w1 ⟨rfl, hb⟩
    have HC1 := Lib.hid (HC.out.step hb)
    have HT2 := Lib.hid (HT.out.below hb)
    have f0 := HT2.out.frozen 0
    have f1 := HT2.out.frozen 1
    have k0 := HT2.out.cell0
    have k1 := HT2.out.cell1
    clear hb l1 l2 l3 l4
    go_wp2
    refine bodyPost_ret (res_two rfl _ rfl ((HT2.out.set0 _).set1 _)) rfl ?_
    exact ⟨rfl, (HC1.out.below.setCell (p := ⟨w.heap.size + 1 + 1, 0, none⟩) (by simp; omega) _).setCell (p := ⟨w.heap.size + 1 + 1, 1, none⟩) (by simp; omega) _⟩
  | true =>
    rw [h1] at F1
    cases h2 : ltrB N d xs k with
    | false =>
      have HR := Lib.hid (crR_no (i := i) (.inr h2))
      rw [HR.out]
      rw [h2] at F2
      clear h h1 h2
      go_enter Try.func22, Try.ntmps22
      go_wp2_with fail
      refine (F1.out _ HC.out.lst).mono ?_
      rintro e w1 ⟨rfl, hb⟩
      have HC1 := Lib.hid (HC.out.step hb)
      have HT1 := Lib.hid (HT.out.below hb)
      clear hb l1 l2 l3 l4
      have l1 := HC1.out.tab
      have l2 := HC1.out.noi.cell0
      have l3 := HC1.out.noi.cell1
      go_wp2_with fail
      refine (F2.out _ HC1.out.lst).mono ?_
      rintro e w2 ⟨rfl, hb⟩
      have HC2 := Lib.hid (HC1.out.step hb)
      have HT2 := Lib.hid (HT1.out.below hb)
      have f0 := HT2.out.frozen 0
      have f1 := HT2.out.frozen 1
      have k0 := HT2.out.cell0
      have k1 := HT2.out.cell1
      clear hb l1 l2 l3
      go_wp2
      refine bodyPost_ret (res_two rfl _ rfl ((HT2.out.set0 _).set1 _)) rfl ?_
      exact ⟨rfl, (HC2.out.below.setCell (p := ⟨w.heap.size + 1 + 1, 0, none⟩) (by simp; omega) _).setCell (p := ⟨w.heap.size + 1 + 1, 1, none⟩) (by simp; omega) _⟩
    | true =>
      rw [h2] at F2
      obtain ⟨p, q, e, i', k', hi, hk, rfl, rfl, he, g1, g2, rfl, rfl, hx5, hy5, hR⟩ := crR_yes h1 h2
      rw [hR]
      have hax : a = some ⟨b, o, none⟩ := h.src.1 (by omega)
      have HX := Lib.hid (List.getElem?_eq_getElem hi)
      have HY := Lib.hid (List.getElem?_eq_getElem hk)
      have hilt : (i' : Int) < (xs.length : Int) := by omega
      have hklt : (k' : Int) < (xs.length : Int) := by omega
      generalize xs[i'] = x at HX hx5 ⊢
      generalize xs[k'] = y at HY hy5 ⊢
      have G1 := Lib.hid fun W => sParts_any p q e x y W he g1 g2 hx5 hy5
      have G2 := Lib.hid fun W => sAll_any p q e W he g2
      have a1 := ptN_le (p := p) (q := q) (x := bl x) (y := bl y) (by rw [bl_len]; exact hx5)
      have a2 := allN_le (p := p) (q := q) (by omega) (by omega)
      have G3 : Hid (∀ W, Calls Try.prog 58 #[.int .i64 ((ptN p q (bl x) (bl y) : Nat) : Int), .int .i64 ((allN p q : Nat) : Int)] W fun e w' => e = .returned (.agg #[.int .i64 (((frN p q (bl x) (bl y)).1 : Nat) : Int), .int .i64 (((frN p q (bl x) (bl y)).2 : Nat) : Int)]) ∧ Below W.heap.size W w') := Lib.hid fun W => sCut_any (ptN p q (bl x) (bl y)) (allN p q) W (by omega) (allN_pos (by omega)) (by omega)
      generalize ptN p q (bl x) (bl y) = n1 at G1 G3
      generalize allN p q = n2 at G2 G3
      generalize (frN p q (bl x) (bl y)).1 = r1 at G3 ⊢
      generalize (frN p q (bl x) (bl y)).2 = r2 at G3 ⊢
      have i0 : (0 : Int) ≤ (i' : Int) := by omega
      have k0' : (0 : Int) ≤ (k' : Int) := by omega
      subst hax
      have b3 : w.heap.size + 1 + 1 ≠ b := by have := World.block_lt_of_cell? _ _ (h.src.2 i' x HX.out); have h3 : b < w.heap.size := this; omega
      have b1 : w.heap.size + 1 + 1 ≠ w.heap.size := by omega
      have b2 : w.heap.size + 1 + 1 ≠ w.heap.size + 1 := by omega
      clear h h1 h2 hR a1 a2 hx5 hy5 he g1 g2 hi hk
      go_enter Try.func22, Try.ntmps22
      go_wp2_with fail
      refine (F1.out _ HC.out.lst).mono ?_
      rintro e w1 ⟨rfl, hb⟩
      have HC1 := Lib.hid (HC.out.step hb)
      have HT1 := Lib.hid (HT.out.below hb)
      clear hb l1 l2 l3 l4
      have l1 := HC1.out.tab
      have l2 := HC1.out.noi.cell0
      have l3 := HC1.out.noi.cell1
      go_wp2_with fail
      refine (F2.out _ HC1.out.lst).mono ?_
      rintro e w2 ⟨rfl, hb⟩
      have HC2 := Lib.hid (HC1.out.step hb)
      have HT2 := Lib.hid (HT1.out.below hb)
      clear hb l1 l2 l3
      have l1 := HC2.out.tab
      have l2 := HC2.out.noi.cell0
      have l3 := HC2.out.noi.cell1
      have l4 := HC2.out.lst.src.2 i' x HX.out
      have l5 := HC2.out.lst.src.2 k' y HY.out
      have HC2d := Lib.hid HC2.out.drew
      have HT2d : Hid (Two w2.drew (w.heap.size + 1 + 1) 0 0) := Lib.hid HT2.out
      go_wp2
      go_region_held3 (fun w' => w'.cell? ⟨w.heap.size, 0, none⟩ = some (.slice (some ⟨b, o, none⟩) xs.length c) ∧ w'.cell? ⟨w.heap.size + 1, 0, none⟩ = some (.int .i64 (p : Int)) ∧ w'.cell? ⟨w.heap.size + 1, 1, none⟩ = some (.int .i64 (e : Int)) ∧ w'.cell? ⟨b, o + i', none⟩ = some (.string x) ∧ w'.cell? ⟨b, o + k', none⟩ = some (.string y))
        (first
          | exact ⟨keep2 HC6.out.tab b1, keep2 HC6.out.noi.cell0 b2, keep2 HC6.out.noi.cell1 b2, keep2 (HC6.out.lst.src.2 i' x HX.out) b3, keep2 (HC6.out.lst.src.2 k' y HY.out) b3⟩
          | exact ⟨HC6.out.tab, HC6.out.noi.cell0, HC6.out.noi.cell1, HC6.out.lst.src.2 i' x HX.out, HC6.out.lst.src.2 k' y HY.out⟩
          | exact ⟨HC5.out.tab, HC5.out.noi.cell0, HC5.out.noi.cell1, HC5.out.lst.src.2 i' x HX.out, HC5.out.lst.src.2 k' y HY.out⟩
          | exact ⟨HC4.out.tab, HC4.out.noi.cell0, HC4.out.noi.cell1, HC4.out.lst.src.2 i' x HX.out, HC4.out.lst.src.2 k' y HY.out⟩
          | exact ⟨HC2d.out.tab, HC2d.out.noi.cell0, HC2d.out.noi.cell1, HC2d.out.lst.src.2 i' x HX.out, HC2d.out.lst.src.2 k' y HY.out⟩)
        ((first
        | (go_at_call 59; refine (G1.out _).mono ?_; rintro e w4 ⟨rfl, hb4⟩; have HC4 := Lib.hid (HC2d.out.step hb4); have HT4 := Lib.hid (HT2d.out.below hb4))
        | (go_at_call 60; refine (G2.out _).mono ?_; rintro e w5 ⟨rfl, hb5⟩; have HC5 := Lib.hid (HC4.out.step hb5); have HT5 := Lib.hid (HT4.out.below hb5))
        | (go_at_call 58; refine (G3.out _).mono ?_; rintro e w6 ⟨rfl, hb6⟩; have HC6 := Lib.hid (HC5.out.step hb6); have HT6 := Lib.hid (HT5.out.below hb6); have f0 := HT6.out.frozen 0; have f1 := HT6.out.frozen 1; have m0 := HT6.out.cell0; have m1 := HT6.out.cell1)))
      all_goals (
        go_wp2
        refine bodyPost_ret (res_two rfl _ rfl ((HT6.out.set0 _).set1 _)) rfl ?_
        exact ⟨rfl, (HC6.out.below.setCell (p := ⟨w.heap.size + 1 + 1, 0, none⟩) (by simp; omega) _).setCell (p := ⟨w.heap.size + 1 + 1, 1, none⟩) (by simp; omega) _⟩)

theorem chanceRead_both (xs : List ByteArray) (N d i k : Int) (hl : xs.length ≤ 1048576) (ht : ∀ x ∈ xs, x.size ≤ 1048576) : ∃ (R0 R2 : Int) (R1 : Bool),
    Hid (∀ W a b o c, ListIn W a b o xs → Calls Try.prog 22 #[.agg #[.slice a xs.length c], .agg #[.int .i64 N, .int .i64 d], .int .i64 i, .int .i64 k] W fun e W' => e = .returned (.tuple #[.agg #[.int .i64 R0, .int .i64 R2], .bool R1]) ∧ Below W.heap.size W W') ∧
    Hid (∀ W a b o c, ListIn W a b o xs → Calls Try.prog 24 #[.agg #[.slice a xs.length c], .agg #[.int .i64 N, .int .i64 d], .int .i64 i, .int .i64 k] W fun e W' => e = .returned (.tuple #[.agg #[.int .i64 R0, .int .i64 R2], .bool R1]) ∧ Below W.heap.size W W') :=
  ⟨_, _, _, fun W a b o c h => sChanceRead_any a b o c xs N d i k W h, fun W a b o c h => chanceRead_any a b o c xs N d i k W h⟩
end Go.Proofs.Ytomhjfjfmjacfaa
