/-
  ChanceRight, the program's and the model's: both answer alike. Used by the claims on chapter 7.
-/
import Derived.Test.YtomhjfjfmjacfaaCuB
import Derived.Test.YtomhjfjfmjacfaaIsTableB
namespace Go.Proofs.Ytomhjfjfmjacfaa
open Go.RowKit
set_option linter.unusedVariables false

/-- The parts in which each letter's marks come as they are. -/
def owL (p q : Nat) (xs : List ByteArray) : List Nat := xs.map fun y => ptN p q (bl y) (bl y)
theorem ow_succ {p q : Nat} {xs : List ByteArray} {k : Nat} {y : ByteArray} (h : xs[k]? = some y) : (owL p q (xs.take (k + 1))).sum = (owL p q (xs.take k)).sum + ptN p q (bl y) (bl y) := by
  unfold owL
  rw [List.take_add_one, h]; simp
theorem ow_le {p q : Nat} : ∀ {xs : List ByteArray}, (∀ y ∈ xs, marksL (bl y) = true) → (owL p q xs).sum ≤ xs.length * allN p q
  | [], _ => by simp [owL]
  | y :: ys, h => by
    have ih := ow_le (p := p) (q := q) (xs := ys) (fun z hz => h z (List.mem_cons_of_mem _ hz))
    have hy := ptN_le (p := p) (q := q) (x := bl y) (y := bl y) (marks_len (h y (List.mem_cons_self ..))).2
    have e : (owL p q (y :: ys)).sum = ptN p q (bl y) (bl y) + (owL p q ys).sum := by simp [owL]
    rw [e, List.length_cons, Nat.add_mul, Nat.one_mul]
    omega
theorem frs_ow (p q : Nat) (xs : List ByteArray) : frs (allN p q) (owL p q xs) = xs.map fun y => frN p q (bl y) (bl y) := by
  unfold frs owL
  rw [List.map_map]; rfl
def tnB (N d : Int) (xs : List ByteArray) : Bool := tableB xs && goodN N d
def rgR (N d : Int) (xs : List ByteArray) : (Nat × Nat) × Bool :=
  if tnB N d xs = true then (cutN (owL N.toNat (d - N).toNat xs).sum (allN N.toNat (d - N).toNat * xs.length), true) else ((0, 0), false)
theorem rgR_no {N d : Int} {xs : List ByteArray} (h : tnB N d xs = false) : rgR N d xs = ((0, 0), false) := if_neg (by rw [h]; decide)
theorem tn_yes {N d : Int} {xs : List ByteArray} (ht : tableB xs = true) (hg : goodN N d = true) : ∃ p q e : Nat, N = (p : Int) ∧ d = (e : Int) ∧ e = p + q ∧ 1 ≤ e ∧ e ≤ 100 ∧ rgR N d xs = (cutN (owL p q xs).sum (allN p q * xs.length), true) := by
  obtain ⟨p, q, hN, hd, g1, g2⟩ := goodN_iff.1 hg
  refine ⟨p, q, p + q, hN, hd, rfl, g1, g2, ?_⟩
  unfold rgR tnB
  rw [ht, hg, if_pos (by rfl), hN, hd]
  have e3 : (p : Int).toNat = p := by omega
  have e4 : (((p + q : Nat) : Int) - (p : Int)).toNat = q := by omega
  rw [e3, e4]

set_option maxHeartbeats 4000000 in
set_option maxRecDepth 20000 in
theorem chanceRight_any (a : Option Addr) (b o c : Nat) (xs : List ByteArray) (N d : Int) (w : World) (h : ListIn w a b o xs) :
    Calls Try.prog 41 #[.agg #[.slice a xs.length c], .agg #[.int .i64 N, .int .i64 d]] w fun e w' => e = .returned (.tuple #[.agg #[.int .i64 ((rgR N d xs).1.1 : Int), .int .i64 ((rgR N d xs).1.2 : Int)], .bool (rgR N d xs).2]) ∧ Below w.heap.size w w' := by
  obtain ⟨i0, hi, hz0, hz1, hz2⟩ := info_parts infoPair
  have HC0 := Lib.hid (carT_new w a b o c xs N d h)
  have HC := Lib.hid (HC0.out.step (below_alloc _ (.cells #[.int .i64 0, .int .i64 0] 28)))
  have HT := Lib.hid (res_new w (.cells #[.slice a xs.length c] 38) (.cells #[.int .i64 N, .int .i64 d] 25))
  have F1 := Lib.hid fun W h => isTable_any a b o c xs W h
  have F2 := Lib.hid fun W => isNoise_any N d W
  have l1 := HC.out.tab
  clear HC0
  cases ht : tableB xs with
  | false =>
    have HR := Lib.hid (rgR_no (N := N) (d := d) (xs := xs) (by unfold tnB; rw [ht]; rfl))
    have F1 := Lib.hid fun W h => val_eqF (v' := .bool false) (F1.out W h) (by rw [ht])
    rw [HR.out]
    clear ht h
    go_enter Try.func41, Try.ntmps41
    go_wp2_with fail
    refine (F1.out _ HC.out.lst).mono ?_
    rintro e w1 ⟨rfl, hb⟩
    have HC1 := Lib.hid (HC.out.step hb)
    have HT2 := Lib.hid (HT.out.below hb)
    have f0 := HT2.out.frozen 0
    have f1 := HT2.out.frozen 1
    have k0 := HT2.out.cell0
    have k1 := HT2.out.cell1
    clear hb l1
    go_wp2
    refine bodyPost_ret (res_two rfl _ rfl ((HT2.out.set0 _).set1 _)) rfl ?_
    exact ⟨rfl, (HC1.out.below.setCell (p := ⟨w.heap.size + 1 + 1, 0, none⟩) (by simp; omega) _).setCell (p := ⟨w.heap.size + 1 + 1, 1, none⟩) (by simp; omega) _⟩
  | true =>
    have F1 := Lib.hid fun W h => val_eqF (v' := .bool true) (F1.out W h) (by rw [ht])
    cases hg : goodN N d with
    | false =>
      have HR := Lib.hid (rgR_no (N := N) (d := d) (xs := xs) (by unfold tnB; rw [hg, Bool.and_false]))
      rw [HR.out]
      rw [hg] at F2
      clear ht h hg
      go_enter Try.func41, Try.ntmps41
      go_wp2_with fail
      refine (F1.out _ HC.out.lst).mono ?_
      rintro e w1 ⟨rfl, hb⟩
      have HC1 := Lib.hid (HC.out.step hb)
      have HT1 := Lib.hid (HT.out.below hb)
      have k0 := HC1.out.noi.cell0
      have k1 := HC1.out.noi.cell1
      clear hb l1
      go_wp2_with fail
      refine (F2.out _).mono ?_
      rintro e w2 ⟨rfl, hb⟩
      have HC2 := Lib.hid (HC1.out.step hb)
      have HT2 := Lib.hid (HT1.out.below hb)
      clear hb k0 k1
      have f0 := HT2.out.frozen 0
      have f1 := HT2.out.frozen 1
      have k0 := HT2.out.cell0
      have k1 := HT2.out.cell1
      go_wp2
      refine bodyPost_ret (res_two rfl _ rfl ((HT2.out.set0 _).set1 _)) rfl ?_
      exact ⟨rfl, (HC2.out.below.setCell (p := ⟨w.heap.size + 1 + 1, 0, none⟩) (by simp; omega) _).setCell (p := ⟨w.heap.size + 1 + 1, 1, none⟩) (by simp; omega) _⟩
    | true =>
      rw [hg] at F2
      obtain ⟨p, q, e, rfl, rfl, he, g1, g2, hR⟩ := tn_yes ht hg
      rw [hR]
      have hA := allN_le (p := p) (q := q) (by omega) (by omega)
      have hA0 := allN_pos (p := p) (q := q) (by omega)
      have hn := ((tableB_iff xs).1 ht).1
      have hn10 := hn.2
      have hS := ow_le (p := p) (q := q) ((tableB_iff xs).1 ht).2.1
      have hS2 : (owL p q xs).sum ≤ 1000000000000 := Nat.le_trans hS (Nat.le_trans (Nat.mul_le_mul hn10 hA) (by decide))
      have HG := Lib.hid fun (y : ByteArray) (W : World) (hy : marksL (bl y) = true) => chanceComes_any p q e y y W he g1 g2 hy hy
      have HMk := Lib.hid ((tableB_iff xs).1 ht).2.1
      have HFin : Hid ((xs.take xs.length).map (fun y => frN p q (bl y) (bl y)) = xs.map fun y => frN p q (bl y) (bl y)) := Lib.hid (by rw [List.take_length])
      have hpl : (owL p q xs).length = xs.length := by unfold owL; rw [List.length_map]
      have G := Lib.hid fun (a' : Option Addr) (g' c' : Nat) (W : World) (hs : SrcV W a' g' (prs (xs.map fun y => frN p q (bl y) (bl y)))) => sumOf_any a' g' xs.length c' (allN p q) (owL p q xs) W hpl.symm (by rw [frs_ow]; exact hs) hA0 hA hS2 (by omega)
      have hx1 := cut_le1 (owL p q xs).sum (allN p q)
      have hx2 := cut_le2 (owL p q xs).sum (allN p q)
      have hx3 := cut_pos (a := (owL p q xs).sum) hA0
      have hm : (cutN (owL p q xs).sum (allN p q)).2 * xs.length ≤ 10000000000 * 10 := Nat.mul_le_mul (by omega) hn10
      have hm0 : 0 < (cutN (owL p q xs).sum (allN p q)).2 * xs.length := Nat.mul_pos hx3 (by omega)
      have HE : Hid (cutN (cutN (owL p q xs).sum (allN p q)).1 ((cutN (owL p q xs).sum (allN p q)).2 * xs.length) = cutN (owL p q xs).sum (allN p q * xs.length)) := Lib.hid (by
        apply cut_eq hm0 (Nat.mul_pos hA0 (by omega))
        have := cut_cross (a := (owL p q xs).sum) hA0
        rw [← Nat.mul_assoc, this, Nat.mul_assoc])
      rw [← HE.out]
      have Fr := Lib.hid fun W => frac_any (cutN (owL p q xs).sum (allN p q)).1 ((cutN (owL p q xs).sum (allN p q)).2 * xs.length) W (by omega) hm0 (by omega)
      obtain ⟨mm, hmm⟩ : ∃ mm, (cutN (owL p q xs).sum (allN p q)).2 * xs.length = mm := ⟨_, rfl⟩
      rw [hmm] at Fr hm ⊢
      have HU := Lib.hid (mul_factsC _ _ mm hmm (by omega))
      generalize (cutN (owL p q xs).sum (allN p q)).1 = x1 at *
      generalize (cutN (owL p q xs).sum (allN p q)).2 = x2 at *
      generalize (cutN x1 mm).1 = r1 at *
      generalize (cutN x1 mm).2 = r2 at *
      have M0 : Hid (∀ W : World, w.heap.size + 1 + 1 + 1 ≤ W.heap.size → (W.alloc (Obj.cells #[] 28)).ownsRow (w.heap.size + 1 + 1 + 1) 28 2 (.slice (some ⟨W.heap.size, 0, none⟩) 0 0) 0 (prs [])) := Lib.hid fun W hW => World.ownsRow_made (base := w.heap.size + 1 + 1 + 1) (e := 28) (size := 2) W #[] 0 hW (by unfold maxLen; omega) rfl
      have HLi := Lib.hid h
      clear ht hg hR hA hA0 hn hS hS2 hpl hx1 hx2 hx3 hm hm0 HE hmm he g1 g2 h
      go_enter Try.func41, Try.ntmps41
      go_wp2_with fail
      refine (F1.out _ HC.out.lst).mono ?_
      rintro e w1 ⟨rfl, hb⟩
      have HC1 := Lib.hid (HC.out.step hb)
      have HT1 := Lib.hid (HT.out.below hb)
      have k0 := HC1.out.noi.cell0
      have k1 := HC1.out.noi.cell1
      clear hb l1
      go_wp2_with fail
      refine (F2.out _).mono ?_
      rintro e w2 ⟨rfl, hb⟩
      have HC2 := Lib.hid (HC1.out.step hb)
      have HT2 := Lib.hid (HT1.out.below hb)
      have l1 := (HC2.out.step (below_alloc w2 (Obj.cells #[] 28))).tab
      have HO2 := Lib.hid (M0.out w2 (by have := HT2.out; have := (Array.getElem?_eq_some_iff.1 this).1; omega))
      clear hb k0 k1
      go_wp2
      clear l1
      go_loopw [6, 23] (fun sv v wr => ∃ k : Nat, v = .int .i64 k ∧ k ≤ xs.length ∧ wr.ownsRow (w.heap.size + 1 + 1 + 1) 28 2 sv k (prs ((xs.take k).map fun y => frN p q (bl y) (bl y))) ∧ Hid (CarT w a b o c xs w.heap.size (w.heap.size + 1) (p : Int) (e : Int) wr) ∧ Hid (Two wr (w.heap.size + 1 + 1) 0 0)) (fun _ v _ => xs.length - (intOf v).toNat)
      case atStart => exact ⟨0, rfl, Nat.zero_le _, HO2.out, Lib.hid (HC2.out.step (below_alloc w2 _)), Lib.hid (other_alloc HT2.out _)⟩
      case round =>
        clear HO2 HC2 HT2
        obtain ⟨k, rfl, hk, hown, HCr, HTr⟩ := hrel
        obtain ⟨av, capv, rfl⟩ := row_form hown
        by_cases hlt : k < xs.length
        · have hyk : xs[k]? = some xs[k] := List.getElem?_eq_getElem hlt
          have d1 := HCr.out.lst.src.2 k _ hyk
          have hax := HCr.out.lst.src.1 (by omega)
          have hmy := HMk.out xs[k] (List.getElem_mem hlt)
          have HP : Hid ((xs.take (k + 1)).map (fun y => frN p q (bl y) (bl y)) = (xs.take k).map (fun y => frN p q (bl y) (bl y)) ++ [((frN p q (bl xs[k]) (bl xs[k])).1, (frN p q (bl xs[k]) (bl xs[k])).2)]) := Lib.hid (by rw [List.take_add_one, hyk, List.map_append]; rfl)
          have HGy := Lib.hid fun W => HG.out xs[k] W hmy
          generalize xs[k] = y at d1 HP HGy
          generalize (frN p q (bl y) (bl y)).1 = s1 at HP HGy
          generalize (frN p q (bl y) (bl y)).2 = s2 at HP HGy
          generalize (xs.take k).map (fun y => frN p q (bl y) (bl y)) = pl at hown HP
          have k0 := HCr.out.noi.cell0
          have k1 := HCr.out.noi.cell1
          have j0 : (0 : Int) ≤ (k : Int) := by omega
          have j1 : (k : Int) < (xs.length : Int) := by omega
          obtain ⟨a1, a2⟩ := pairs_room k (by omega)
          have HOw := Lib.hid hown
          subst hax
          clear hyk hmy hown
          go_wp2_with fail
          refine (HGy.out _).mono ?_
          rintro e w5 ⟨rfl, hb⟩
          have HC5 := Lib.hid (HCr.out.step hb)
          have HT5 := Lib.hid (HTr.out.below hb)
          have hown5 := row_below HOw.out hb
          have HLt : Hid (∀ z, (Value.slice av k capv).ownBlock = some z → w.heap.size + 1 + 1 + 1 ≤ z ∧ z < w5.heap.size) := Lib.hid hown5.lt
          have hsz : w.heap.size + 1 + 1 + 1 ≤ w5.heap.size := by have := HT5.out; have := (Array.getElem?_eq_some_iff.1 this).1; omega
          clear hb k0 k1 d1
          go_wp2_with (at_builtin; refine wpList_append_lies _ rfl _ _ 42 rfl (w.heap.size + 1 + 1 + 1) 28 i0 (.agg #[.int .i64 0, .int .i64 0]) 2 16 Try.underlying42 hi hz0 hz1 hz2 rfl (by decide) (.slice av k capv) k (prs pl) rfl (hown5.alloc _) ⟨w5.heap.size, 0, none⟩ 1 1 [.int .i64 (s1 : Int), .int .i64 (s2 : Int)] rfl rfl (cell_two_new _ _ _ _) (by simp [Value.oneCell']) (by decide) a1 a2 (Nat.le_trans hsz (below_alloc w5 _).size) (w5.heap.size + 1) (by simp) ?_; intro gg cg w6 hownN hgrow hat hgl)
          have HW6 : Hid (w6.ownsRow (w.heap.size + 1 + 1 + 1) 28 2 (.slice (some ⟨gg, 0, none⟩) (k + 1) cg) (k + 1) (prs ((xs.take (k + 1)).map fun y => frN p q (bl y) (bl y)))) := Lib.hid (by
            rw [HP.out, prs_snoc]
            exact hownN)
          have HBg : Hid (Below (w.heap.size + 1 + 1 + 1) (w5.alloc (.cells #[.int .i64 (s1 : Int), .int .i64 (s2 : Int)] 28)) w6) := Lib.hid ((Below.refl (w.heap.size + 1 + 1 + 1) _).grown hgrow (Nat.le_trans hsz (below_alloc w5 _).size) (fun z e => (HLt.out z e).1))
          have HC6 : Hid (CarT w (some ⟨b, o, none⟩) b o c xs w.heap.size (w.heap.size + 1) (p : Int) (e : Int) w6) := Lib.hid ((HC5.out.step (below_alloc w5 _)).grow HLi.out (HBg.out.mono (by omega)))
          have HT6 : Hid (Two w6 (w.heap.size + 1 + 1) 0 0) := Lib.hid ((HBg.out.block (w.heap.size + 1 + 1) (by omega)).trans (other_alloc HT5.out _))
          clear hownN hgrow hown5 a1 a2 hsz hat hgl
          go_wp2
          go_roundw
          case rel => exact ⟨k + 1, by go_num, by omega, HW6.out, HC6, HT6⟩
          case measure => simp [intOf]; omega
        · obtain rfl : k = xs.length := by omega
          rw [HFin.out] at hown
          obtain ⟨a', g', c', hv, hs', _, _⟩ := seq_of_row hown
          injection hv with hv1 hv2 hv3
          subst hv1 hv3
          have HS := Lib.hid hs'
          clear hown hs'
          go_wp2_with fail
          refine (G.out _ g' _ _ HS.out).mono ?_
          rintro e w5 ⟨rfl, hb⟩
          have HC5 := Lib.hid ((HCr.out.step hb).step (below_alloc w5 (.cells #[.int .i64 (x1 : Int), .int .i64 (x2 : Int)] 28)))
          have HT5 := Lib.hid (other_alloc (HTr.out.below hb) (.cells #[.int .i64 (x1 : Int), .int .i64 (x2 : Int)] 28))
          have hN5 := two_new w5 x1 x2
          have s0 := hN5.cell0
          have s1 := hN5.cell1
          have l1 := HC5.out.tab
          obtain ⟨u1, u2, u3⟩ := HU.out
          clear hb hN5
          go_wp2_with fail
          refine (Fr.out _).mono ?_
          rintro e w6 ⟨rfl, hb⟩
          have HC6 := Lib.hid (HC5.out.step hb)
          have HT6 := Lib.hid (HT5.out.below hb)
          clear hb s0 s1 l1 u1 u2 u3
          have f0 := HT6.out.frozen 0
          have f1 := HT6.out.frozen 1
          have k0 := HT6.out.cell0
          have k1 := HT6.out.cell1
          go_wp2
          refine bodyPost_ret (res_two rfl _ rfl ((HT6.out.set0 _).set1 _)) rfl ?_
          exact ⟨rfl, (HC6.out.below.setCell (p := ⟨w.heap.size + 1 + 1, 0, none⟩) (by simp; omega) _).setCell (p := ⟨w.heap.size + 1 + 1, 1, none⟩) (by simp; omega) _⟩

/-! ### The model's -/
set_option maxHeartbeats 4000000 in
set_option maxRecDepth 20000 in
theorem sChanceRight_any (a : Option Addr) (b o c : Nat) (xs : List ByteArray) (N d : Int) (w : World) (h : ListIn w a b o xs) :
    Calls Try.prog 40 #[.agg #[.slice a xs.length c], .agg #[.int .i64 N, .int .i64 d]] w fun e w' => e = .returned (.tuple #[.agg #[.int .i64 ((rgR N d xs).1.1 : Int), .int .i64 ((rgR N d xs).1.2 : Int)], .bool (rgR N d xs).2]) ∧ Below w.heap.size w w' := by
  have HC0 := Lib.hid (carT_new w a b o c xs N d h)
  have HC := Lib.hid (HC0.out.step (below_alloc _ (.cells #[.int .i64 0, .int .i64 0] 28)))
  have HT := Lib.hid (res_new w (.cells #[.slice a xs.length c] 38) (.cells #[.int .i64 N, .int .i64 d] 25))
  have F1 := Lib.hid fun W h => stable_any a b o c xs W h
  have F2 := Lib.hid fun W => sGood_any N d W
  have l1 := HC.out.tab
  clear HC0
  cases ht : tableB xs with
  | false =>
    have HR := Lib.hid (rgR_no (N := N) (d := d) (xs := xs) (by unfold tnB; rw [ht]; rfl))
    have F1 := Lib.hid fun W h => val_eqF (v' := .bool false) (F1.out W h) (by rw [ht])
    rw [HR.out]
    clear ht h
    go_enter Try.func40, Try.ntmps40
    go_wp2_with fail
    refine (F1.out _ HC.out.lst).mono ?_
    rintro e w1 ⟨rfl, hb⟩
    have HC1 := Lib.hid (HC.out.step hb)
    have HT2 := Lib.hid (HT.out.below hb)
    have f0 := HT2.out.frozen 0
    have f1 := HT2.out.frozen 1
    have k0 := HT2.out.cell0
    have k1 := HT2.out.cell1
    clear hb l1
    go_wp2
    refine bodyPost_ret (res_two rfl _ rfl ((HT2.out.set0 _).set1 _)) rfl ?_
    exact ⟨rfl, (HC1.out.below.setCell (p := ⟨w.heap.size + 1 + 1, 0, none⟩) (by simp; omega) _).setCell (p := ⟨w.heap.size + 1 + 1, 1, none⟩) (by simp; omega) _⟩
  | true =>
    have F1 := Lib.hid fun W h => val_eqF (v' := .bool true) (F1.out W h) (by rw [ht])
    cases hg : goodN N d with
    | false =>
      have HR := Lib.hid (rgR_no (N := N) (d := d) (xs := xs) (by unfold tnB; rw [hg, Bool.and_false]))
      rw [HR.out]
      rw [hg] at F2
      clear ht h hg
      go_enter Try.func40, Try.ntmps40
      go_wp2_with fail
      refine (F1.out _ HC.out.lst).mono ?_
      rintro e w1 ⟨rfl, hb⟩
      have HC1 := Lib.hid (HC.out.step hb)
      have HT1 := Lib.hid (HT.out.below hb)
      have k0 := HC1.out.noi.cell0
      have k1 := HC1.out.noi.cell1
      clear hb l1
      go_wp2_with fail
      refine (F2.out _).mono ?_
      rintro e w2 ⟨rfl, hb⟩
      have HC2 := Lib.hid (HC1.out.step hb)
      have HT2 := Lib.hid (HT1.out.below hb)
      clear hb k0 k1
      have f0 := HT2.out.frozen 0
      have f1 := HT2.out.frozen 1
      have k0 := HT2.out.cell0
      have k1 := HT2.out.cell1
      go_wp2
      refine bodyPost_ret (res_two rfl _ rfl ((HT2.out.set0 _).set1 _)) rfl ?_
      exact ⟨rfl, (HC2.out.below.setCell (p := ⟨w.heap.size + 1 + 1, 0, none⟩) (by simp; omega) _).setCell (p := ⟨w.heap.size + 1 + 1, 1, none⟩) (by simp; omega) _⟩
    | true =>
      rw [hg] at F2
      obtain ⟨p, q, e, rfl, rfl, he, g1, g2, hR⟩ := tn_yes ht hg
      rw [hR]
      have hA := allN_le (p := p) (q := q) (by omega) (by omega)
      have hA0 := allN_pos (p := p) (q := q) (by omega)
      have hn := ((tableB_iff xs).1 ht).1
      have hn10 := hn.2
      have hS : (owL p q xs).sum ≤ 1000000000000 := Nat.le_trans (ow_le (p := p) (q := q) ((tableB_iff xs).1 ht).2.1) (Nat.le_trans (Nat.mul_le_mul hn10 hA) (by decide))
      have hax : a = some ⟨b, o, none⟩ := h.src.1 (by omega)
      have HMk := Lib.hid ((tableB_iff xs).1 ht).2.1
      have G1 := Lib.hid fun (y : ByteArray) (W : World) (hy : y.size ≤ 5) => sParts_any p q e y y W he g1 g2 hy hy
      have G2 := Lib.hid fun W => sAll_any p q e W he g2
      have HSu := Lib.hid fun (k : Nat) (y : ByteArray) (hy : xs[k]? = some y) => ow_succ (p := p) (q := q) hy
      have HLe : Hid (∀ k, (owL p q (xs.take k)).sum ≤ 1000000000000) := Lib.hid fun k => Nat.le_trans (by
        conv => rhs; rw [← List.take_append_drop k xs]
        unfold owL
        rw [List.map_append, List.sum_append]
        omega) hS
      have HFin : Hid ((owL p q (xs.take xs.length)).sum = (owL p q xs).sum) := Lib.hid (by rw [List.take_length])
      have HS0 : Hid ((owL p q (xs.take 0)).sum = 0) := Lib.hid (by simp [owL])
      have hm : allN p q * xs.length ≤ 10000000000 * 10 := Nat.mul_le_mul hA hn10
      have hm0 : 0 < allN p q * xs.length := Nat.mul_pos hA0 (by omega)
      obtain ⟨mm, hmm⟩ : ∃ mm, allN p q * xs.length = mm := ⟨_, rfl⟩
      rw [hmm] at hm hm0 ⊢
      have HU := Lib.hid (mul_factsC _ _ mm hmm (by omega))
      have G3 := Lib.hid fun W => sCut_any (owL p q xs).sum mm W (by omega) hm0 (by omega)
      generalize (cutN (owL p q xs).sum mm).1 = r1 at G3 ⊢
      generalize (cutN (owL p q xs).sum mm).2 = r2 at G3 ⊢
      generalize (owL p q xs).sum = S at *
      generalize allN p q = D at *
      subst hax
      have b3 : 0 < xs.length → w.heap.size + 1 + 1 ≠ b := fun hh => by have := World.block_lt_of_cell? _ _ (h.src.2 0 _ (List.getElem?_eq_getElem hh)); have h3 : b < w.heap.size := this; omega
      have b1 : w.heap.size + 1 + 1 ≠ w.heap.size := by omega
      have b2 : w.heap.size + 1 + 1 ≠ w.heap.size + 1 := by omega
      clear ht hg hR hA hA0 hn hS hm hm0 hmm he g1 g2 h
      go_enter Try.func40, Try.ntmps40
      go_wp2_with fail
      refine (F1.out _ HC.out.lst).mono ?_
      rintro e w1 ⟨rfl, hb⟩
      have HC1 := Lib.hid (HC.out.step hb)
      have HT1 := Lib.hid (HT.out.below hb)
      have k0 := HC1.out.noi.cell0
      have k1 := HC1.out.noi.cell1
      clear hb l1
      go_wp2_with fail
      refine (F2.out _).mono ?_
      rintro e w2 ⟨rfl, hb⟩
      have HC2 := Lib.hid (HC1.out.step hb)
      have HT2 := Lib.hid (HT1.out.below hb)
      clear hb k0 k1
      go_wp2
      go_loopw [6, 7] (fun sv v wr => ∃ k r : Nat, v = .int .i64 k ∧ sv = .int .i64 r ∧ k ≤ xs.length ∧ Hid (r = (owL p q (xs.take k)).sum) ∧ Hid (CarT w (some ⟨b, o, none⟩) b o c xs w.heap.size (w.heap.size + 1) (p : Int) (e : Int) wr) ∧ Hid (Two wr (w.heap.size + 1 + 1) 0 0)) (fun _ v _ => xs.length - (intOf v).toNat)
      case atStart => exact ⟨0, 0, rfl, rfl, Nat.zero_le _, Lib.hid (by rw [HS0.out]), HC2, HT2⟩
      case round =>
        clear HC2 HT2
        obtain ⟨k, r, rfl, rfl, hk, HRs, HCr, HTr⟩ := hrel
        have l1 := HCr.out.tab
        by_cases hlt : k < xs.length
        · have hyk : xs[k]? = some xs[k] := List.getElem?_eq_getElem hlt
          have HYk := Lib.hid hyk
          have hy5 : xs[k].size ≤ 5 := by have := marks_len (HMk.out _ (List.getElem_mem hlt)); rw [bl_len] at this; exact this.2
          have hsu := HSu.out k _ hyk
          have hle := HLe.out (k + 1)
          generalize xs[k] = y at hyk HYk hy5 hsu
          have GY := Lib.hid fun W => G1.out y W hy5
          have hrs := HRs.out
          rw [hsu] at hle
          have HR2 : Hid (r + ptN p q (bl y) (bl y) = (owL p q (xs.take (k + 1))).sum) := Lib.hid (by rw [hsu, hrs])
          rw [← hrs] at hle
          have hrp : (r : Int) + ((ptN p q (bl y) (bl y) : Nat) : Int) = ((r + ptN p q (bl y) (bl y) : Nat) : Int) := by omega
          generalize ptN p q (bl y) (bl y) = t at *
          have hkx : k + 1 ≤ xs.length := by omega
          have j2 : (k : Int) + 1 ≤ 11 := by omega
          have j0 : (0 : Int) ≤ (k : Int) := by omega
          have j1 : (k : Int) < (xs.length : Int) := by omega
          have hle2 : r + t ≤ 1000000000000000000 := by omega
          obtain ⟨m1, m2⟩ := wrap_nat (r + t) hle2
          generalize r + t = r' at *
          have l2 := HCr.out.noi.cell0
          have l3 := HCr.out.noi.cell1
          have l5 := HCr.out.lst.src.2 k y HYk.out
          have HCd := Lib.hid HCr.out.drew
          have HTd : Hid (Two wr.drew (w.heap.size + 1 + 1) 0 0) := Lib.hid HTr.out
          clear hrs hle hle2 hsu hyk hy5 hn10 b1 b2 b3
          go_wp2
          go_region_held3 (fun w' => w'.cell? ⟨w.heap.size, 0, none⟩ = some (.slice (some ⟨b, o, none⟩) xs.length c) ∧ w'.cell? ⟨w.heap.size + 1, 0, none⟩ = some (.int .i64 (p : Int)) ∧ w'.cell? ⟨w.heap.size + 1, 1, none⟩ = some (.int .i64 (e : Int)) ∧ w'.cell? ⟨b, o + k, none⟩ = some (.string y))
            (first
              | exact ⟨HC4.out.tab, HC4.out.noi.cell0, HC4.out.noi.cell1, HC4.out.lst.src.2 k y HYk.out⟩
              | exact ⟨HCd.out.tab, HCd.out.noi.cell0, HCd.out.noi.cell1, HCd.out.lst.src.2 k y HYk.out⟩)
            ((first
              | (go_at_call 59; refine (GY.out _).mono ?_; rintro e w4 ⟨rfl, hb4⟩; have HC4 := Lib.hid (HCd.out.step hb4); have HT4 := Lib.hid (HTd.out.below hb4))))
          go_wp2
          go_roundw
          case rel => exact ⟨k + 1, r', by go_num, rfl, hkx, HR2, HC4, HT4⟩
          case measure => simp [intOf]; omega
        · obtain rfl : k = xs.length := by omega
          have HE : Hid (r = S) := Lib.hid (by rw [HRs.out, HFin.out])
          have G3 : Hid (∀ W, Calls Try.prog 58 #[.int .i64 (r : Int), .int .i64 (mm : Int)] W fun e w' => e = .returned (.agg #[.int .i64 (r1 : Int), .int .i64 (r2 : Int)]) ∧ Below W.heap.size W w') := Lib.hid fun W => by rw [HE.out]; exact G3.out W
          have k0 := HCr.out.noi.cell0
          have k1 := HCr.out.noi.cell1
          obtain ⟨u1, u2, u3⟩ := HU.out
          have HCd := Lib.hid HCr.out.drew
          have HTd : Hid (Two wr.drew (w.heap.size + 1 + 1) 0 0) := Lib.hid HTr.out
          clear HRs
          go_wp2
          go_region_held3 (fun w' => w'.cell? ⟨w.heap.size, 0, none⟩ = some (.slice (some ⟨b, o, none⟩) xs.length c) ∧ w'.cell? ⟨w.heap.size + 1, 0, none⟩ = some (.int .i64 (p : Int)) ∧ w'.cell? ⟨w.heap.size + 1, 1, none⟩ = some (.int .i64 (e : Int)))
            (first
              | exact ⟨keep2 HC5.out.tab b1, keep2 HC5.out.noi.cell0 b2, keep2 HC5.out.noi.cell1 b2⟩
              | exact ⟨HC5.out.tab, HC5.out.noi.cell0, HC5.out.noi.cell1⟩
              | exact ⟨HC4.out.tab, HC4.out.noi.cell0, HC4.out.noi.cell1⟩
              | exact ⟨HCd.out.tab, HCd.out.noi.cell0, HCd.out.noi.cell1⟩)
            ((first
              | (go_at_call 60; refine (G2.out _).mono ?_; rintro e w4 ⟨rfl, hb4⟩; have HC4 := Lib.hid (HCd.out.step hb4); have HT4 := Lib.hid (HTd.out.below hb4))
              | (go_at_call 58; refine (G3.out _).mono ?_; rintro e w5 ⟨rfl, hb5⟩; have HC5 := Lib.hid (HC4.out.step hb5); have HT5 := Lib.hid (HT4.out.below hb5); have f0 := HT5.out.frozen 0; have f1 := HT5.out.frozen 1; have m0 := HT5.out.cell0; have m1 := HT5.out.cell1)))
          go_wp2
          refine bodyPost_ret (res_two rfl _ rfl ((HT5.out.set0 _).set1 _)) rfl ?_
          exact ⟨rfl, (HC5.out.below.setCell (p := ⟨w.heap.size + 1 + 1, 0, none⟩) (by simp; omega) _).setCell (p := ⟨w.heap.size + 1 + 1, 1, none⟩) (by simp; omega) _⟩

theorem chanceRight_both (xs : List ByteArray) (N d : Int) (hl : xs.length ≤ 1048576) (ht : ∀ x ∈ xs, x.size ≤ 1048576) : ∃ (R0 R2 : Int) (R1 : Bool),
    Hid (∀ W a b o c, ListIn W a b o xs → Calls Try.prog 40 #[.agg #[.slice a xs.length c], .agg #[.int .i64 N, .int .i64 d]] W fun e W' => e = .returned (.tuple #[.agg #[.int .i64 R0, .int .i64 R2], .bool R1]) ∧ Below W.heap.size W W') ∧
    Hid (∀ W a b o c, ListIn W a b o xs → Calls Try.prog 41 #[.agg #[.slice a xs.length c], .agg #[.int .i64 N, .int .i64 d]] W fun e W' => e = .returned (.tuple #[.agg #[.int .i64 R0, .int .i64 R2], .bool R1]) ∧ Below W.heap.size W W') :=
  ⟨_, _, _, fun W a b o c h => sChanceRight_any a b o c xs N d W h, fun W a b o c h => chanceRight_any a b o c xs N d W h⟩
end Go.Proofs.Ytomhjfjfmjacfaa
