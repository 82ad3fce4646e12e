/-
  ReadTable, the model's: the program and the model answer alike. Used by the claims on chapter 7.
-/
import Derived.Test.YtomhjfjfmjacfaaCuB
import Derived.Deep.RegionLaw
namespace Go.Proofs.Ytomhjfjfmjacfaa
open Go.RowKit
set_option linter.unusedVariables false

theorem seqOut_nothingN {W W' : World} (hb : Below W.heap.size W W') (a : Option Addr) (c : Nat) : SeqOut [] 0 false W (.returned (.tuple #[.slice a 0 c, .bool false])) W' :=
  ⟨a, W.heap.size, c, rfl, ⟨fun h => by simp at h, fun j x hx => by simp at hx⟩, fun h => by simp at h, fun j hj => by simp at hj, hb⟩

set_option maxHeartbeats 4000000 in
set_option maxRecDepth 20000 in
theorem sReadTable_any (a : Option Addr) (b o c : Nat) (xs : List ByteArray) (N d i : Int) (w : World) (h : ListIn w a b o xs) :
    Calls Try.prog 26 #[.agg #[.slice a xs.length c], .agg #[.int .i64 N, .int .i64 d], .int .i64 i] w (SeqOut (prs (rtL N d xs i)) (rtL N d xs i).length (ltrB N d xs i) w) := by
  obtain ⟨i0, hi, hz0, hz1, hz2⟩ := info_parts infoPair
  have HC0 := Lib.hid (carT_new w a b o c xs N d h)
  have HC := Lib.hid (HC0.out.step (below_alloc _ (Obj.cells #[] 28)))
  have F1 := Lib.hid fun W h => sLetter_any a b o c xs N d i W h
  have l1 := HC.out.tab
  have l2 := HC.out.noi.cell0
  have l3 := HC.out.noi.cell1
  have HSz : Hid (((w.alloc (.cells #[.slice a xs.length c] 38)).alloc (.cells #[.int .i64 N, .int .i64 d] 25)).heap.size = w.heap.size + 1 + 1) := Lib.hid (by simp)
  have M0 : Hid ((((w.alloc (.cells #[.slice a xs.length c] 38)).alloc (.cells #[.int .i64 N, .int .i64 d] 25)).alloc (Obj.cells #[] 28)).ownsRow (w.heap.size + 1 + 1) 28 2 (.slice (some ⟨w.heap.size + 1 + 1, 0, none⟩) 0 0) 0 (prs [])) := Lib.hid (by
    have := World.ownsRow_made (base := w.heap.size + 1 + 1) (e := 28) (size := 2) ((w.alloc (.cells #[.slice a xs.length c] 38)).alloc (.cells #[.int .i64 N, .int .i64 d] 25)) #[] 0 (by rw [HSz.out]; exact Nat.le_refl _) (by unfold maxLen; omega) rfl
    rw [HSz.out] at this
    exact this)
  clear HC0
  cases hl : ltrB N d xs i with
  | false =>
    have HR2 : Hid (rtL N d xs i = []) := Lib.hid (by unfold rtL; rw [if_neg (by rw [hl]; decide)])
    rw [HR2.out]
    rw [hl] at F1
    clear hl h
    go_enter Try.func26, Try.ntmps26
    go_wp2_with fail
    refine (F1.out _ HC.out.lst).mono ?_
    rintro e w1 ⟨rfl, hb⟩
    have HC1 := Lib.hid (HC.out.step hb)
    clear hb l1 l2 l3
    go_wp2
    go_ret2
    exact seqOut_nothingN HC1.out.below _ _
  | true =>
    rw [hl] at F1
    obtain ⟨p, q, e, x, rfl, rfl, he, g1, g2, ht, ⟨i', rfl, hxi⟩, hmr, hmx, hrt⟩ := rt_yes hl
    rw [hrt, List.length_map]
    have hn10 : xs.length ≤ 10 := ((tableB_iff xs).1 ht).1.2
    have hA := allN_le (p := p) (q := q) (by omega) (by omega)
    have hA0 := allN_pos (p := p) (q := q) (by omega)
    have hil : i' < xs.length := (List.getElem?_eq_some_iff.1 hxi).1
    have hax : a = some ⟨b, o, none⟩ := h.src.1 (by omega)
    have hx5 : x.size ≤ 5 := by have := marks_len hmx; rw [bl_len] at this; exact this.2
    have G1 := Lib.hid fun (y : ByteArray) (W : World) (hy : y.size ≤ 5) => sParts_any p q e x y W he g1 g2 hx5 hy
    have G2 := Lib.hid fun W => sAll_any p q e W he g2
    have G3 : Hid (∀ (y : ByteArray) (W : World), Calls Try.prog 58 #[.int .i64 ((ptN p q (bl x) (bl y) : Nat) : Int), .int .i64 ((allN p q : Nat) : Int)] W fun e w' => e = .returned (.agg #[.int .i64 (((frN p q (bl x) (bl y)).1 : Nat) : Int), .int .i64 (((frN p q (bl x) (bl y)).2 : Nat) : Int)]) ∧ Below W.heap.size W w') := Lib.hid fun y W => sCut_any (ptN p q (bl x) (bl y)) (allN p q) W (by have := ptN_le (p := p) (q := q) (x := bl x) (y := bl y) (by rw [bl_len]; exact hx5); omega) hA0 (by omega)
    have HMk := Lib.hid ((tableB_iff xs).1 ht).2.1
    have HFin : Hid ((xs.take xs.length).map (fun y => frN p q (bl x) (bl y)) = xs.map fun y => frN p q (bl x) (bl y)) := Lib.hid (by rw [List.take_length])
    have HXi := Lib.hid hxi
    have i1 : (0 : Int) ≤ (i' : Int) := by omega
    have i2 : (i' : Int) < (xs.length : Int) := by omega
    generalize allN p q = D at *
    subst hax
    have HLi := Lib.hid h
    clear hl h he g1 g2 ht hmr hmx hrt hA hA0 hxi hil hx5
    go_enter Try.func26, Try.ntmps26
    go_wp2_with fail
    refine (F1.out _ HC.out.lst).mono ?_
    rintro e w1 ⟨rfl, hb⟩
    have HC1 := Lib.hid (HC.out.step hb)
    have HO1 := Lib.hid (row_below M0.out hb)
    clear hb l1 l2 l3
    go_wp2
    go_loopw [8, 9] (fun sv v wr => ∃ k : Nat, v = .int .i64 k ∧ k ≤ xs.length ∧ wr.ownsRow (w.heap.size + 1 + 1) 28 2 sv k (prs ((xs.take k).map fun y => frN p q (bl x) (bl y))) ∧ Hid (CarT w (some ⟨b, o, none⟩) b o c xs w.heap.size (w.heap.size + 1) (p : Int) (e : Int) wr)) (fun _ v _ => xs.length - (intOf v).toNat)
    case atStart => exact ⟨0, rfl, Nat.zero_le _, HO1.out, HC1⟩
    case round =>
      clear HO1 HC1 M0 HSz
      obtain ⟨k, rfl, hk, hown, HCr⟩ := hrel
      obtain ⟨av, capv, rfl⟩ := row_form hown
      have l1 := HCr.out.tab
      by_cases hlt : k < xs.length
      · have hyk : xs[k]? = some xs[k] := List.getElem?_eq_getElem hlt
        have HYk := Lib.hid hyk
        have hy5 : xs[k].size ≤ 5 := by have := marks_len (HMk.out _ (List.getElem_mem hlt)); rw [bl_len] at this; exact this.2
        have HP : Hid ((xs.take (k + 1)).map (fun y => frN p q (bl x) (bl y)) = (xs.take k).map (fun y => frN p q (bl x) (bl y)) ++ [((frN p q (bl x) (bl xs[k])).1, (frN p q (bl x) (bl xs[k])).2)]) := Lib.hid (by rw [List.take_add_one, hyk, List.map_append]; rfl)
        generalize xs[k] = y at hyk HYk hy5 HP
        have GY := Lib.hid fun W => G1.out y W hy5
        have GC := Lib.hid fun W => G3.out y W
        generalize (frN p q (bl x) (bl y)).1 = r1 at HP GC
        generalize (frN p q (bl x) (bl y)).2 = r2 at HP GC
        generalize ptN p q (bl x) (bl y) = t at GY GC
        generalize (xs.take k).map (fun y => frN p q (bl x) (bl y)) = pl at hown HP
        have hkx : k + 1 ≤ xs.length := by omega
        have j2 : (k : Int) + 1 ≤ 11 := by omega
        have j0 : (0 : Int) ≤ (k : Int) := by omega
        have j1 : (k : Int) < (xs.length : Int) := by omega
        obtain ⟨a1, a2⟩ := pairs_room k (by omega)
        have l2 := HCr.out.noi.cell0
        have l3 := HCr.out.noi.cell1
        have l4 := HCr.out.lst.src.2 i' x HXi.out
        have l5 := HCr.out.lst.src.2 k y HYk.out
        have HCd := Lib.hid HCr.out.drew
        have HBd : Hid (Below wr.heap.size wr wr.drew) := Lib.hid (Below.refl wr.heap.size wr).drew
        have HOw := Lib.hid hown
        have HLt : Hid (∀ z, (Value.slice av k capv).ownBlock = some z → w.heap.size + 1 + 1 ≤ z) := Lib.hid fun z e => (hown.lt z e).1
        have hsz : w.heap.size + 1 + 1 ≤ wr.heap.size := by have := HCr.out.low.2; omega
        clear hyk hy5 hn10 hown
        go_wp2
        go_region_held3 (fun w' => w'.cell? ⟨w.heap.size, 0, none⟩ = some (.slice (some ⟨b, o, none⟩) xs.length c) ∧ w'.cell? ⟨w.heap.size + 1, 0, none⟩ = some (.int .i64 (p : Int)) ∧ w'.cell? ⟨w.heap.size + 1, 1, none⟩ = some (.int .i64 (e : Int)) ∧ w'.cell? ⟨b, o + i', none⟩ = some (.string x) ∧ w'.cell? ⟨b, o + k, none⟩ = some (.string y))
          (first
            | exact ⟨HC7.out.tab, HC7.out.noi.cell0, HC7.out.noi.cell1, HC7.out.lst.src.2 i' x HXi.out, HC7.out.lst.src.2 k y HYk.out⟩
            | exact ⟨HC6.out.tab, HC6.out.noi.cell0, HC6.out.noi.cell1, HC6.out.lst.src.2 i' x HXi.out, HC6.out.lst.src.2 k y HYk.out⟩
            | exact ⟨HC6a.out.tab, HC6a.out.noi.cell0, HC6a.out.noi.cell1, HC6a.out.lst.src.2 i' x HXi.out, HC6a.out.lst.src.2 k y HYk.out⟩
            | exact ⟨HC5.out.tab, HC5.out.noi.cell0, HC5.out.noi.cell1, HC5.out.lst.src.2 i' x HXi.out, HC5.out.lst.src.2 k y HYk.out⟩
            | exact ⟨HC4.out.tab, HC4.out.noi.cell0, HC4.out.noi.cell1, HC4.out.lst.src.2 i' x HXi.out, HC4.out.lst.src.2 k y HYk.out⟩
            | exact ⟨HCd.out.tab, HCd.out.noi.cell0, HCd.out.noi.cell1, HCd.out.lst.src.2 i' x HXi.out, HCd.out.lst.src.2 k y HYk.out⟩)
          ((first
            | (go_at_call 59; refine (GY.out _).mono ?_; rintro e w4 ⟨rfl, hb4⟩; have HC4 := Lib.hid (HCd.out.step hb4); have HB4 := Lib.hid (HBd.out.trans (hb4.mono HBd.out.size)); clear hb4)
            | (go_at_call 60; refine (G2.out _).mono ?_; rintro e w5 ⟨rfl, hb5⟩; have HC5 := Lib.hid (HC4.out.step hb5); have HB5 := Lib.hid (HB4.out.trans (hb5.mono HB4.out.size)); clear hb5)
            | (go_at_call 58; refine (GC.out _).mono ?_; rintro e w6 ⟨rfl, hb6⟩; have HC6 := Lib.hid (HC5.out.step hb6); have HB6 := Lib.hid (HB5.out.trans (hb6.mono HB5.out.size)); have HC6a := Lib.hid (HC6.out.step (below_alloc w6 (.cells #[.int .i64 (r1 : Int), .int .i64 (r2 : Int)] 28))); have hown6 := row_below HOw.out HB6.out; have hsz6 := Nat.le_trans hsz HB6.out.size; clear hb6)
            | (refine step_append_lies _ (by rfl) _ _ _ (by rfl) (w.heap.size + 1 + 1) 28 i0 _ 2 16 Try.underlying42 hi hz0 hz1 hz2 rfl (by decide) (.slice av k capv) k (prs pl) (by rfl) (hown6.alloc _) ⟨w6.heap.size, 0, none⟩ 1 1 [.int .i64 (r1 : Int), .int .i64 (r2 : Int)] (by rfl) (by rfl) (cell_two_new _ _ _ _) (by simp [Value.oneCell']) (by decide) a1 a2 (Nat.le_trans hsz6 (below_alloc w6 _).size) (w6.heap.size + 1) (by simp) ?_; intro gg cg w7 hownN hgrow hat hgl; have HW7 := Lib.hid hownN; have HC7 := Lib.hid (HC6a.out.grow HLi.out ((Below.refl (w.heap.size + 1 + 1) _).grown hgrow (Nat.le_trans hsz6 (below_alloc w6 _).size) (fun z e => HLt.out z e))); clear hownN hgrow hat hgl)))
        have HW8 : Hid (w7.ownsRow (w.heap.size + 1 + 1) 28 2 (.slice (some ⟨gg, 0, none⟩) (k + 1) cg) (k + 1) (prs ((xs.take (k + 1)).map fun y => frN p q (bl x) (bl y)))) := Lib.hid (by
          rw [HP.out, prs_snoc]
          exact HW7.out)
        clear hown6 hsz6 hsz a1 a2
        go_wp2
        go_roundw
        case rel => exact ⟨k + 1, by go_num, hkx, HW8.out, HC7⟩
        case measure => simp [intOf]; omega
      · obtain rfl : k = xs.length := by omega
        have HOw := Lib.hid (HFin.out ▸ hown)
        clear hown
        go_wp2
        go_ret2
        exact seqOut_row HOw.out (by omega) HCr.out.below

theorem readTable_both (xs : List ByteArray) (N d i : Int) (hl : xs.length ≤ 1048576) (ht : ∀ x ∈ xs, x.size ≤ 1048576) : ∃ (l : List (Nat × Nat)) (R1 : Bool), l.length ≤ 1000 ∧
    Hid (∀ W a b o c, ListIn W a b o xs → Calls Try.prog 26 #[.agg #[.slice a xs.length c], .agg #[.int .i64 N, .int .i64 d], .int .i64 i] W (SeqOut (prs l) l.length R1 W)) ∧
    Hid (∀ W a b o c, ListIn W a b o xs → Calls Try.prog 27 #[.agg #[.slice a xs.length c], .agg #[.int .i64 N, .int .i64 d], .int .i64 i] W (SeqOut (prs l) l.length R1 W)) := by
  refine ⟨rtL N d xs i, ltrB N d xs i, ?_, fun W a b o c h => sReadTable_any a b o c xs N d i W h, fun W a b o c h => readTable_any a b o c xs N d i W h⟩
  unfold rtL
  split
  · rename_i h
    obtain ⟨_, _, _, _, _, _, _, _, _, ht2, _⟩ := rt_yes h
    have := ((tableB_iff xs).1 ht2).1.2
    rw [List.length_map]; omega
  · simp
end Go.Proofs.Ytomhjfjfmjacfaa
