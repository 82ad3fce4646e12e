/-
  ReadTable, the program's. Used by the claims on chapter 7.
-/
import Derived.Test.YtomhjfjfmjacfaaCrB
import Derived.Test.YtomhjfjfmjacfaaSumW
import Derived.Deep.AppendLies
namespace Go.Proofs.Ytomhjfjfmjacfaa
open Go.RowKit
set_option linter.unusedVariables false

/-- The parts in which each letter's marks come of others. -/
def ptsL (p q : Nat) (x : Bs) (xs : List ByteArray) : List Nat := xs.map fun y => ptN p q x (bl y)
theorem frs_pts (p q : Nat) (x : Bs) (xs : List ByteArray) : frs (allN p q) (ptsL p q x xs) = xs.map fun y => frN p q x (bl y) := by
  unfold frs ptsL
  rw [List.map_map]; rfl
theorem pairs_room (k : Nat) (h : k ≤ 10) : k + 1 ≤ maxLen ∧ (k + 1) * 16 ≤ 140737488355328 := by unfold maxLen; omega

theorem seqOut_row {W W' : World} {base : Nat} {e : TypeId} {size : Nat} {v : Value} {n : Nat} {vs : List Value} (h : W'.ownsRow base e size v n vs) (hw : W.heap.size ≤ base) (hb : Below W.heap.size W W') : SeqOut vs n true W (.returned (.tuple #[v, .bool true])) W' := by
  obtain ⟨a, g, c, rfl, hs, hg, hf⟩ := seq_of_row h
  exact ⟨a, g, c, rfl, hs, fun h => Nat.le_trans hw (hg h), hf, hb⟩
theorem CarT.grow {w : World} {a : Option Addr} {b o c : Nat} {xs : List ByteArray} {N d : Int} {W W' : World} (hl : ListIn w a b o xs) (h : CarT w a b o c xs w.heap.size (w.heap.size + 1) N d W) (hb : Below (w.heap.size + 1 + 1) W W') : CarT w a b o c xs w.heap.size (w.heap.size + 1) N d W' :=
  have hB : Below w.heap.size w W' := h.below.trans (hb.mono (by omega))
  ⟨(hb.cell (p := ⟨w.heap.size, 0, none⟩) (by show w.heap.size < _; omega)).trans h.tab, (hb.block (w.heap.size + 1) (by omega)).trans h.noi, hl.below hB, hB⟩
/-- What ReadTable answers. -/
def rtOk (N d : Int) (xs : List ByteArray) (i : Int) : Bool := ltrB N d xs i
def rtL (N d : Int) (xs : List ByteArray) (i : Int) : List (Nat × Nat) := if ltrB N d xs i = true then xs.map fun y => frN N.toNat (d - N).toNat (bl (marksR xs i).1) (bl y) else []
theorem rtL_len (N d : Int) (xs : List ByteArray) (i : Int) : (rtL N d xs i).length ≤ xs.length := by
  unfold rtL; split <;> simp
theorem rt_yes {N d : Int} {xs : List ByteArray} {i : Int} (h : ltrB N d xs i = true) : ∃ (p q e : Nat) (x : ByteArray), N = (p : Int) ∧ d = (e : Int) ∧ e = p + q ∧ 1 ≤ e ∧ e ≤ 100 ∧ tableB xs = true ∧ (∃ i' : Nat, i = (i' : Int) ∧ xs[i']? = some x) ∧ marksR xs i = (x, true) ∧ marksL (bl x) = true ∧ rtL N d xs i = (xs.map fun y => frN p q (bl x) (bl y)) := by
  have h0 := h
  rw [ltrB_marks, Bool.and_eq_true] at h
  rcases marksR_cases xs i with e1 | ⟨n, rfl, hn, ht, e1⟩
  · rw [e1] at h; exact absurd h.2 (by decide)
  obtain ⟨p, q, hN, hd, g1, g2⟩ := goodN_iff.1 h.1
  refine ⟨p, q, p + q, xs[n], hN, hd, rfl, g1, g2, ht, ⟨n, rfl, List.getElem?_eq_getElem hn⟩, e1, tab_good ht hn, ?_⟩
  unfold rtL
  rw [if_pos h0, e1, hN, hd]
  have e3 : (p : Int).toNat = p := by omega
  have e4 : (((p + q : Nat) : Int) - (p : Int)).toNat = q := by omega
  rw [e3, e4]

set_option maxHeartbeats 4000000 in
set_option maxRecDepth 20000 in
theorem readTable_any (a : Option Addr) (b o c : Nat) (xs : List ByteArray) (N d i : Int) (w : World) (h : ListIn w a b o xs) :
    Calls Try.prog 27 #[.agg #[.slice a xs.length c], .agg #[.int .i64 N, .int .i64 d], .int .i64 i] w (SeqOut (prs (rtL N d xs i)) (rtL N d xs i).length (ltrB N d xs i) w) := by
  obtain ⟨i0, hi, hz0, hz1, hz2⟩ := info_parts infoPair
  have HC := Lib.hid (carT_new w a b o c xs N d h)
  have F1 := Lib.hid fun W h => marksOf_any a b o c xs i W h
  have F2 := Lib.hid fun W => isNoise_any N d W
  have l1 := HC.out.tab
  have HLM := Lib.hid (ltrB_marks N d xs i)
  cases hm : (marksR xs i).2 with
  | false =>
    have HR : Hid (ltrB N d xs i = false) := Lib.hid (by rw [HLM.out, hm, Bool.and_false])
    have HR2 : Hid (rtL N d xs i = []) := Lib.hid (by unfold rtL; rw [if_neg (by rw [HR.out]; decide)])
    rw [HR.out, HR2.out]
    rw [hm] at F1
    generalize (marksR xs i).1 = s1 at F1
    clear hm h
    go_enter Try.func27, Try.ntmps27
    go_wp2_with fail
    refine (F1.out _ HC.out.lst).mono ?_
    rintro e w1 ⟨rfl, hb⟩
    have HC1 := Lib.hid (HC.out.step hb)
    clear hb l1
    go_wp2
    go_ret2
    exact seqOut_none HC1.out.below
  | true =>
    rw [hm] at F1
    cases hg : goodN N d with
    | false =>
      have HR : Hid (ltrB N d xs i = false) := Lib.hid (by rw [HLM.out, hg, Bool.false_and])
      have HR2 : Hid (rtL N d xs i = []) := Lib.hid (by unfold rtL; rw [if_neg (by rw [HR.out]; decide)])
      rw [HR.out, HR2.out]
      rw [hg] at F2
      generalize (marksR xs i).1 = s1 at F1
      clear hm hg h
      go_enter Try.func27, Try.ntmps27
      go_wp2_with fail
      refine (F1.out _ HC.out.lst).mono ?_
      rintro e w1 ⟨rfl, hb⟩
      have HC1 := Lib.hid (HC.out.step hb)
      have k0 := HC1.out.noi.cell0
      have k1 := HC1.out.noi.cell1
      clear hb l1
      go_wp2_with fail
      refine (F2.out _).mono ?_
      rintro e w2 ⟨rfl, hb⟩
      have HC2 := Lib.hid (HC1.out.step hb)
      clear hb k0 k1
      go_wp2
      go_ret2
      exact seqOut_none HC2.out.below
    | true =>
      have hlt : ltrB N d xs i = true := by rw [HLM.out, hg, hm]; rfl
      rw [hlt]
      rw [hg] at F2
      obtain ⟨p, q, e, x, rfl, rfl, he, g1, g2, ht, ⟨i', hi', hxi⟩, hmr, hmx, hrt⟩ := rt_yes hlt
      rw [hrt, List.length_map]
      rw [hmr] at F1
      have hn10 : xs.length ≤ 10 := ((tableB_iff xs).1 ht).1.2
      have HG := Lib.hid fun (y : ByteArray) (W : World) (hy : marksL (bl y) = true) => chanceComes_any p q e x y W he g1 g2 hmx hy
      have HMk := Lib.hid ((tableB_iff xs).1 ht).2.1
      have HFin : Hid ((xs.take xs.length).map (fun y => frN p q (bl x) (bl y)) = xs.map fun y => frN p q (bl x) (bl y)) := Lib.hid (by rw [List.take_length])
      have M0 : Hid (∀ W : World, w.heap.size + 1 + 1 ≤ W.heap.size → (W.alloc (Obj.cells #[] 28)).ownsRow (w.heap.size + 1 + 1) 28 2 (.slice (some ⟨W.heap.size, 0, none⟩) 0 0) 0 (prs [])) := Lib.hid fun W hW => World.ownsRow_made (base := w.heap.size + 1 + 1) (e := 28) (size := 2) W #[] 0 hW (by unfold maxLen; omega) rfl
      have HLi := Lib.hid h
      clear hm hg hlt hi' hxi hmr hmx hrt ht he g1 g2 h
      go_enter Try.func27, Try.ntmps27
      go_wp2_with fail
      refine (F1.out _ HC.out.lst).mono ?_
      rintro e w1 ⟨rfl, hb⟩
      have HC1 := Lib.hid (HC.out.step hb)
      have k0 := HC1.out.noi.cell0
      have k1 := HC1.out.noi.cell1
      clear hb l1
      go_wp2_with fail
      refine (F2.out _).mono ?_
      rintro e w2 ⟨rfl, hb⟩
      have HC2 := Lib.hid (HC1.out.step hb)
      have l1 := (HC2.out.step (below_alloc w2 (Obj.cells #[] 28))).tab
      have HO2 := Lib.hid (M0.out w2 (by have := HC2.out.low.2; omega))
      clear hb k0 k1
      go_wp2
      clear l1
      go_loopw [10, 30] (fun sv v wr => ∃ k : Nat, v = .int .i64 k ∧ k ≤ xs.length ∧ wr.ownsRow (w.heap.size + 1 + 1) 28 2 sv k (prs ((xs.take k).map fun y => frN p q (bl x) (bl y))) ∧ Hid (CarT w a b o c xs w.heap.size (w.heap.size + 1) (p : Int) (e : Int) wr)) (fun _ v _ => xs.length - (intOf v).toNat)
      case atStart => exact ⟨0, rfl, Nat.zero_le _, HO2.out, Lib.hid (HC2.out.step (below_alloc w2 _))⟩
      case round =>
        clear HO2 HC2
        obtain ⟨k, rfl, hk, hown, HCr⟩ := hrel
        obtain ⟨av, capv, rfl⟩ := row_form hown
        by_cases hlt : k < xs.length
        · have hyk : xs[k]? = some xs[k] := List.getElem?_eq_getElem hlt
          have d1 := HCr.out.lst.src.2 k _ hyk
          have hax := HCr.out.lst.src.1 (by omega)
          have hmy := HMk.out xs[k] (List.getElem_mem hlt)
          have HP : Hid ((xs.take (k + 1)).map (fun y => frN p q (bl x) (bl y)) = (xs.take k).map (fun y => frN p q (bl x) (bl y)) ++ [((frN p q (bl x) (bl xs[k])).1, (frN p q (bl x) (bl xs[k])).2)]) := Lib.hid (by rw [List.take_add_one, hyk, List.map_append]; rfl)
          have HGy := Lib.hid fun W => HG.out xs[k] W hmy
          generalize xs[k] = y at d1 HP HGy
          generalize (frN p q (bl x) (bl y)).1 = r1 at HP HGy
          generalize (frN p q (bl x) (bl y)).2 = r2 at HP HGy
          generalize (xs.take k).map (fun y => frN p q (bl x) (bl y)) = pl at hown HP
          have k0 := HCr.out.noi.cell0
          have k1 := HCr.out.noi.cell1
          have j0 : (0 : Int) ≤ (k : Int) := by omega
          have j1 : (k : Int) < (xs.length : Int) := by omega
          obtain ⟨a1, a2⟩ := pairs_room k (by omega)
          have HOw := Lib.hid hown
          subst hax
          clear hyk hmy hown
          go_wp2_with fail
          refine (HGy.out _).mono ?_
          rintro e w5 ⟨rfl, hb⟩
          have HC5 := Lib.hid (HCr.out.step hb)
          have hown5 := row_below HOw.out hb
          have HLt : Hid (∀ z, (Value.slice av k capv).ownBlock = some z → w.heap.size + 1 + 1 ≤ z ∧ z < w5.heap.size) := Lib.hid hown5.lt
          have hsz : w.heap.size + 1 + 1 ≤ w5.heap.size := by have := HC5.out.low.2; omega
          clear hb k0 k1 d1
          go_wp2_with (at_builtin; refine wpList_append_lies _ rfl _ _ 42 rfl (w.heap.size + 1 + 1) 28 i0 (.agg #[.int .i64 0, .int .i64 0]) 2 16 Try.underlying42 hi hz0 hz1 hz2 rfl (by decide) (.slice av k capv) k (prs pl) rfl (hown5.alloc _) ⟨w5.heap.size, 0, none⟩ 1 1 [.int .i64 (r1 : Int), .int .i64 (r2 : Int)] rfl rfl (cell_two_new _ _ _ _) (by simp [Value.oneCell']) (by decide) a1 a2 (Nat.le_trans hsz (below_alloc w5 _).size) (w5.heap.size + 1) (by simp) ?_; intro gg cg w6 hownN hgrow hat hgl)
          have HW6 : Hid (w6.ownsRow (w.heap.size + 1 + 1) 28 2 (.slice (some ⟨gg, 0, none⟩) (k + 1) cg) (k + 1) (prs ((xs.take (k + 1)).map fun y => frN p q (bl x) (bl y)))) := Lib.hid (by
            rw [HP.out, prs_snoc]
            exact hownN)
          have HC6 : Hid (CarT w (some ⟨b, o, none⟩) b o c xs w.heap.size (w.heap.size + 1) (p : Int) (e : Int) w6) := Lib.hid ((HC5.out.step (below_alloc w5 _)).grow HLi.out ((Below.refl (w.heap.size + 1 + 1) _).grown hgrow (Nat.le_trans hsz (below_alloc w5 _).size) (fun z e => (HLt.out z e).1)))
          clear hownN hgrow hown5 a1 a2 hsz hat hgl
          go_wp2
          go_roundw
          case rel => exact ⟨k + 1, by go_num, by omega, HW6.out, HC6⟩
          case measure => simp [intOf]; omega
        · obtain rfl : k = xs.length := by omega
          have HOw := Lib.hid (HFin.out ▸ hown)
          clear hown
          go_wp2
          go_ret2
          exact seqOut_row HOw.out (by omega) HCr.out.below
end Go.Proofs.Ytomhjfjfmjacfaa
