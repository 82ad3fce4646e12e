/-
  ChancesSent of the program; both answer alike. Used by the claims on chapter 7.
-/
import Derived.Test.YtomhjfjfmjacfaaSntW
import Derived.Deep.RegionWith
namespace Go.Proofs.Ytomhjfjfmjacfaa
open Go.RowKit
set_option linter.unusedVariables false

theorem str_new (w : World) (o1 o2 : Obj) (y : ByteArray) : (((w.alloc o1).alloc o2).alloc (.cells #[.string y] 9)).cell? ⟨w.heap.size + 1 + 1, 0, none⟩ = some (.string y) := by
  have h := cell_new ((w.alloc o1).alloc o2) (.string y) 9
  have e : ((w.alloc o1).alloc o2).heap.size = w.heap.size + 1 + 1 := by simp
  rw [e] at h; exact h
theorem frozen_belowB {w w' : World} {g j : Nat} (hg : g < w.heap.size) (hb : Below w.heap.size w w') (h : w.frozen? ⟨g, j, none⟩ = false) : w'.frozen? ⟨g, j, none⟩ = false := by
  have e := hb.block g hg
  unfold World.frozen? at h ⊢
  rw [e]; exact h
theorem chanceP_le {p q : Nat} {x y : Bs} (hx : x.length ≤ 5) : ptN p q x y ≤ allN p q := ptN_le hx

set_option maxHeartbeats 8000000 in
set_option maxRecDepth 20000 in
theorem chancesSent_any (a : Option Addr) (b o c : Nat) (xs : List ByteArray) (N d : Int) (y : ByteArray) (w : World) (h : ListIn w a b o xs) (hy : y.size ≤ maxLen) :
    Calls Try.prog 35 #[.agg #[.slice a xs.length c], .agg #[.int .i64 N, .int .i64 d], .string y] w (SeqOut (prs (csL N d xs y)) (csL N d xs y).length (csOk N d xs y) w) := by
  obtain ⟨i0, hi, hz0, hz1, hz2⟩ := info_parts infoPair
  have HC0 := Lib.hid (carT_new w a b o c xs N d h)
  have HC := Lib.hid (HC0.out.step (below_alloc _ (.cells #[.string y] 9)))
  have HY := Lib.hid (str_new w (.cells #[.slice a xs.length c] 38) (.cells #[.int .i64 N, .int .i64 d] 25) y)
  have F1 := Lib.hid fun W h => isTable_any a b o c xs W h
  have F2 := Lib.hid fun W => isNoise_any N d W
  have F3 := Lib.hid fun W => areMarks_any y W hy
  have l1 := HC.out.tab
  clear HC0
  cases ht : tableB xs with
  | false =>
    obtain ⟨e1, e2⟩ := cs_no (N := N) (d := d) (xs := xs) (y := y) (by unfold csB; rw [ht]; rfl)
    have F1 := Lib.hid fun W h => val_eqF (v' := .bool false) (F1.out W h) (by rw [ht])
    rw [e1, e2]
    clear ht h e1 e2
    go_enter Try.func35, Try.ntmps35
    go_wp2_with fail
    refine (F1.out _ HC.out.lst).mono ?_
    rintro e' w1 ⟨rfl, hb⟩
    have HC1 := Lib.hid (HC.out.step hb)
    have HY1 := Lib.hid (cell_belowT hb HY.out)
    have k0 := HC1.out.noi.cell0
    have k1 := HC1.out.noi.cell1
    clear hb l1
    go_wp2
    go_ret2
    exact seqOut_none HC1.out.below
  | true =>
    have F1 := Lib.hid fun W h => val_eqF (v' := .bool true) (F1.out W h) (by rw [ht])
    cases hg : goodN N d with
    | false =>
      obtain ⟨e1, e2⟩ := cs_no (N := N) (d := d) (xs := xs) (y := y) (by unfold csB; rw [hg, Bool.and_false]; rfl)
      rw [e1, e2]
      rw [hg] at F2
      clear ht h hg e1 e2
      go_enter Try.func35, Try.ntmps35
      go_wp2_with fail
      refine (F1.out _ HC.out.lst).mono ?_
      rintro e' w1 ⟨rfl, hb⟩
      have HC1 := Lib.hid (HC.out.step hb)
      have HY1 := Lib.hid (cell_belowT hb HY.out)
      have k0 := HC1.out.noi.cell0
      have k1 := HC1.out.noi.cell1
      clear hb l1
      go_wp2_with fail
      refine (F2.out _).mono ?_
      rintro e' w2 ⟨rfl, hb⟩
      have HC2 := Lib.hid (HC1.out.step hb)
      have HY2 := Lib.hid (cell_belowT hb HY1.out)
      have l5 := HY2.out
      clear hb k0 k1
      go_wp2
      go_ret2
      exact seqOut_none HC2.out.below
    | true =>
      rw [hg] at F2
      cases hm : marksL (bl y) with
      | false =>
        obtain ⟨e1, e2⟩ := cs_no (N := N) (d := d) (xs := xs) (y := y) (by unfold csB; rw [hm, Bool.and_false])
        rw [e1, e2]
        rw [hm] at F3
        clear ht h hg hm e1 e2
        go_enter Try.func35, Try.ntmps35
        go_wp2_with fail
        refine (F1.out _ HC.out.lst).mono ?_
        rintro e' w1 ⟨rfl, hb⟩
        have HC1 := Lib.hid (HC.out.step hb)
        have HY1 := Lib.hid (cell_belowT hb HY.out)
        have k0 := HC1.out.noi.cell0
        have k1 := HC1.out.noi.cell1
        clear hb l1
        go_wp2_with fail
        refine (F2.out _).mono ?_
        rintro e' w2 ⟨rfl, hb⟩
        have HC2 := Lib.hid (HC1.out.step hb)
        have HY2 := Lib.hid (cell_belowT hb HY1.out)
        have l5 := HY2.out
        clear hb k0 k1
        go_wp2_with fail
        refine (F3.out _).mono ?_
        rintro e' w3 ⟨rfl, hb⟩
        have HC3 := Lib.hid (HC2.out.step hb)
        have HY3 := Lib.hid (cell_belowT hb HY2.out)
        have l1 := HC3.out.tab
        clear hb l5
        go_wp2
        go_ret2
        exact seqOut_none HC3.out.below
      | true =>
        rw [hm] at F3
        obtain ⟨p, q, e, rfl, rfl, he, g1, g2, hN, hd⟩ := cs_yes (xs := xs) (y := y) hg
        have hv : csB (p : Int) (e : Int) xs y = true := by unfold csB; rw [ht, hg, hm]; rfl
        have hSd : csS (p : Int) (e : Int) xs y = (snL p q xs (bl y)).sum := by unfold csS; rw [hN, hd]
        have hOk : csOk (p : Int) (e : Int) xs y = decide (0 < (snL p q xs (bl y)).sum) := by unfold csOk; rw [hv, hSd, Bool.true_and]
        have hL : csL (p : Int) (e : Int) xs y = if 0 < (snL p q xs (bl y)).sum then frs (snL p q xs (bl y)).sum (snL p q xs (bl y)) else [] := by
          unfold csL
          rw [hOk, hSd, hN, hd]
          by_cases e1 : 0 < (snL p q xs (bl y)).sum
          · rw [if_pos e1, if_pos (by simpa using e1)]
          · rw [if_neg e1, if_neg (by simpa using e1)]
        rw [hL, hOk]
        have hn := ((tableB_iff xs).1 ht).1
        have hn10 := hn.2
        have hA := allN_le (p := p) (q := q) (by omega) (by omega)
        have hA0 := allN_pos (p := p) (q := q) (by omega)
        have hS : (snL p q xs (bl y)).sum ≤ 1000000000000 := Nat.le_trans (sn_le ((tableB_iff xs).1 ht).2.1) (Nat.le_trans (Nat.mul_le_mul hn.2 hA) (by decide))
        have hMk := ((tableB_iff xs).1 ht).2.1
        have HMk := Lib.hid hMk
        have K : Hid (∀ (W : World), ListIn W a b o xs → Pr2 25 W (w.heap.size + 1) (p : Int) (e : Int) → W.cell? ⟨w.heap.size + 1 + 1, 0, none⟩ = some (.string y) → Calls Try.prog 73 #[.slice a xs.length c, .func (.func 74) #[] #[.pointer (some ⟨w.heap.size + 1, 0, none⟩), .pointer (some ⟨w.heap.size + 1 + 1, 0, none⟩)]] W fun e' W' => e' = .returned (.bool (decide (0 < (snL p q xs (bl y)).sum))) ∧ Below W.heap.size W W') := Lib.hid fun W hli hno hst => by
          rw [← any_can]
          refine containsFuncB_any _ _ (fun x => canN p q (bl x) (bl y)) xs a b o c W hli (by omega) (fun W2 x hx hb => ?_) (fun _ _ => rfl)
          exact canClose_any p q e _ _ x y W2 he g1 (hMk x hx) hm (hno.below hb) (cell_belowT hb hst)
        have HG := Lib.hid fun (x : ByteArray) (W : World) (hx : marksL (bl x) = true) => chanceComes_any p q e x y W he g1 g2 hx hm
        have hpl : (snL p q xs (bl y)).length = xs.length := sn_len p q xs (bl y)
        have HLi := Lib.hid h
        by_cases hS0 : 0 < (snL p q xs (bl y)).sum
        rotate_left
        · have HD : Hid (decide (0 < (snL p q xs (bl y)).sum) = false) := Lib.hid (by simpa using hS0)
          rw [HD.out] at K ⊢
          rw [if_neg hS0]
          clear ht h hg hm hv hSd hOk hL hN hd he g1 g2 hn hn10 hA hA0 hS hMk hpl hS0 HD HG
          go_enter Try.func35, Try.ntmps35
          go_wp2_with fail
          refine (F1.out _ HC.out.lst).mono ?_
          rintro e' w1 ⟨rfl, hb⟩
          have HC1 := Lib.hid (HC.out.step hb)
          have HY1 := Lib.hid (cell_belowT hb HY.out)
          have k0 := HC1.out.noi.cell0
          have k1 := HC1.out.noi.cell1
          clear hb l1
          go_wp2_with fail
          refine (F2.out _).mono ?_
          rintro e' w2 ⟨rfl, hb⟩
          have HC2 := Lib.hid (HC1.out.step hb)
          have HY2 := Lib.hid (cell_belowT hb HY1.out)
          have l5 := HY2.out
          clear hb k0 k1
          go_wp2_with fail
          refine (F3.out _).mono ?_
          rintro e' w3 ⟨rfl, hb⟩
          have HC3 := Lib.hid (HC2.out.step hb)
          have HY3 := Lib.hid (cell_belowT hb HY2.out)
          have l1 := HC3.out.tab
          clear hb l5
          go_wp2_with fail
          refine (K.out w3 HC3.out.lst HC3.out.noi HY3.out).mono ?_
          rintro e' w4 ⟨rfl, hb⟩
          have HC4 := Lib.hid (HC3.out.step hb)
          have HY4 := Lib.hid (cell_belowT hb HY3.out)
          clear hb l1
          go_wp2
          go_ret2
          exact seqOut_none HC4.out.below
        · have HD : Hid (decide (0 < (snL p q xs (bl y)).sum) = true) := Lib.hid (by simpa using hS0)
          rw [HD.out] at K ⊢
          rw [if_pos hS0]
          have hfl : (frs (snL p q xs (bl y)).sum (snL p q xs (bl y))).length = xs.length := by rw [frs_len]; exact hpl
          rw [hfl]
          have HMap : Hid (∀ k, k ≤ xs.length → (xs.take k).map (fun x => frN p q (bl x) (bl y)) = frs (allN p q) ((snL p q xs (bl y)).take k)) := Lib.hid fun k _ => by
            unfold frs snL
            rw [← List.map_take, List.map_map]; rfl
          have HFin : Hid (frs (allN p q) ((snL p q xs (bl y)).take xs.length) = updL (snL p q xs (bl y)).sum (allN p q) (snL p q xs (bl y)) 0) := Lib.hid (by
            rw [← hpl, List.take_length]; unfold updL; simp [frs])
          have HEnd : Hid (updL (snL p q xs (bl y)).sum (allN p q) (snL p q xs (bl y)) xs.length = frs (snL p q xs (bl y)).sum (snL p q xs (bl y))) := Lib.hid (by
            rw [← hpl]; unfold updL; rw [List.take_length, List.drop_length]; simp [frs])
          have hD0 : ∀ (ps : List Nat), updL ps.sum (allN p q) ps 0 = frs (allN p q) ps := fun ps => by unfold updL; simp [frs]
          have HUp := Lib.hid hD0
          have HIn : Hid (∀ k (hk : k < (snL p q xs (bl y)).length), (snL p q xs (bl y))[k] ≤ allN p q) := Lib.hid fun k hk => by
            have e1 : (snL p q xs (bl y))[k] = ptN p q (bl (xs[k]'(by omega))) (bl y) := by simp [snL]
            rw [e1]
            exact ptN_le (marks_len (hMk _ (List.getElem_mem _))).2
          generalize hps : snL p q xs (bl y) = ps at *
          generalize allN p q = D at *
          have SU := Lib.hid fun (a' : Option Addr) (g' c' : Nat) (W : World) (hs : SrcV W a' g' (prs (frs D ps))) => sumOf_any a' g' xs.length c' D ps W hpl.symm hs hA0 hA hS (by omega)
          have hDS := Lib.hid (And.intro hA0 (And.intro hA (And.intro hS hS0)))
          have HPl := Lib.hid hpl
          have HN1 := Lib.hid hn.1
          generalize hSS : ps.sum = S at *
          obtain ⟨x1, hx1⟩ : ∃ x1, x1 = (cutN S D).1 := ⟨_, rfl⟩
          obtain ⟨x2, hx2⟩ : ∃ x2, x2 = (cutN S D).2 := ⟨_, rfl⟩
          rw [← hx1, ← hx2] at SU
          have HX := Lib.hid (And.intro hx1 hx2)
          have M0 : Hid (∀ W : World, w.heap.size + 1 + 1 + 1 ≤ W.heap.size → (W.alloc (Obj.cells #[] 28)).ownsRow (w.heap.size + 1 + 1 + 1) 28 2 (.slice (some ⟨W.heap.size, 0, none⟩) 0 0) 0 (prs [])) := Lib.hid fun W hW => World.ownsRow_made (base := w.heap.size + 1 + 1 + 1) (e := 28) (size := 2) W #[] 0 hW (by unfold maxLen; omega) rfl
          clear ht h hg hm hv hSd hOk hL hN hd he g1 g2 hn hA hA0 hS hMk hpl hS0 HD hx1 hx2 hfl hD0 hps hSS
          go_enter Try.func35, Try.ntmps35
          go_wp2_with fail
          refine (F1.out _ HC.out.lst).mono ?_
          rintro e' w1 ⟨rfl, hb⟩
          have HC1 := Lib.hid (HC.out.step hb)
          have HY1 := Lib.hid (cell_belowT hb HY.out)
          have k0 := HC1.out.noi.cell0
          have k1 := HC1.out.noi.cell1
          clear hb l1
          go_wp2_with fail
          refine (F2.out _).mono ?_
          rintro e' w2 ⟨rfl, hb⟩
          have HC2 := Lib.hid (HC1.out.step hb)
          have HY2 := Lib.hid (cell_belowT hb HY1.out)
          have l5 := HY2.out
          clear hb k0 k1
          go_wp2_with fail
          refine (F3.out _).mono ?_
          rintro e' w3 ⟨rfl, hb⟩
          have HC3 := Lib.hid (HC2.out.step hb)
          have HY3 := Lib.hid (cell_belowT hb HY2.out)
          have l1 := HC3.out.tab
          clear hb l5
          go_wp2_with fail
          refine (K.out w3 HC3.out.lst HC3.out.noi HY3.out).mono ?_
          rintro e' w4 ⟨rfl, hb⟩
          have HC4 := Lib.hid (HC3.out.step hb)
          have HY4 := Lib.hid (cell_belowT hb HY3.out)
          clear hb l1
          have l1 := (HC4.out.step (below_alloc w4 (Obj.cells #[] 28))).tab
          have HO4 := Lib.hid (M0.out w4 (World.block_lt_of_cell? _ _ HY4.out))
          go_wp2
          clear l1
          go_loopw [8, 39] (fun sv v wr => ∃ k : Nat, v = .int .i64 k ∧ k ≤ xs.length ∧ wr.ownsRow (w.heap.size + 1 + 1 + 1) 28 2 sv k (prs ((xs.take k).map fun x => frN p q (bl x) (bl y))) ∧ Hid (CarT w a b o c xs w.heap.size (w.heap.size + 1) (p : Int) (e : Int) wr) ∧ Hid (wr.cell? ⟨w.heap.size + 1 + 1, 0, none⟩ = some (.string y))) (fun _ v _ => xs.length - (intOf v).toNat)
          case atStart => exact ⟨0, rfl, Nat.zero_le _, HO4.out, Lib.hid (HC4.out.step (below_alloc w4 _)), Lib.hid (cell_belowT (below_alloc w4 _) HY4.out)⟩
          case round =>
            clear HO4 HC4 HY4 HC3 HY3 HC2 HY2 HC1 HY1 HC HY
            obtain ⟨k, rfl, hk, hown, HCr, HYr⟩ := hrel
            obtain ⟨av, capv, rfl⟩ := row_form hown
            by_cases hlt : k < xs.length
            · have hyk : xs[k]? = some xs[k] := List.getElem?_eq_getElem hlt
              have d1 := HCr.out.lst.src.2 k _ hyk
              have hax := HCr.out.lst.src.1 (by omega)
              have hmy := HMk.out xs[k] (List.getElem_mem hlt)
              have HP : Hid ((xs.take (k + 1)).map (fun x => frN p q (bl x) (bl y)) = (xs.take k).map (fun x => frN p q (bl x) (bl y)) ++ [((frN p q (bl xs[k]) (bl y)).1, (frN p q (bl xs[k]) (bl y)).2)]) := Lib.hid (by rw [List.take_add_one, hyk, List.map_append]; rfl)
              have HGy := Lib.hid fun W => HG.out xs[k] W hmy
              generalize xs[k] = x at d1 HP HGy
              generalize (frN p q (bl x) (bl y)).1 = s1 at HP HGy
              generalize (frN p q (bl x) (bl y)).2 = s2 at HP HGy
              generalize (xs.take k).map (fun x => frN p q (bl x) (bl y)) = pl at hown HP
              have k0 := HCr.out.noi.cell0
              have k1 := HCr.out.noi.cell1
              have k2 := HYr.out
              have j0 : (0 : Int) ≤ (k : Int) := by omega
              have j1 : (k : Int) < (xs.length : Int) := by omega
              have hkx : k + 1 ≤ xs.length := by omega
              obtain ⟨a1, a2⟩ := pairs_room k (by omega)
              have HOw := Lib.hid hown
              subst hax
              clear hyk hmy hown
              go_wp2_with fail
              refine (HGy.out _).mono ?_
              rintro e' w5 ⟨rfl, hb⟩
              have HC5 := Lib.hid (HCr.out.step hb)
              have HY5 := Lib.hid (cell_belowT hb HYr.out)
              have hown5 := row_below HOw.out hb
              have HLt : Hid (∀ z, (Value.slice av k capv).ownBlock = some z → w.heap.size + 1 + 1 + 1 ≤ z ∧ z < w5.heap.size) := Lib.hid hown5.lt
              have hsz : w.heap.size + 1 + 1 + 1 ≤ w5.heap.size := World.block_lt_of_cell? _ _ HY5.out
              clear hb k0 k1 k2 d1
              go_wp2_with (at_builtin; refine wpList_append_lies _ rfl _ _ 42 rfl (w.heap.size + 1 + 1 + 1) 28 i0 (.agg #[.int .i64 0, .int .i64 0]) 2 16 Try.underlying42 hi hz0 hz1 hz2 rfl (by decide) (.slice av k capv) k (prs pl) rfl (hown5.alloc _) ⟨w5.heap.size, 0, none⟩ 1 1 [.int .i64 (s1 : Int), .int .i64 (s2 : Int)] rfl rfl (cell_two_new _ _ _ _) (by simp [Value.oneCell']) (by decide) a1 a2 (Nat.le_trans hsz (below_alloc w5 _).size) (w5.heap.size + 1) (by simp) ?_; intro gg cg w6 hownN hgrow hat hgl)
              have HW6 : Hid (w6.ownsRow (w.heap.size + 1 + 1 + 1) 28 2 (.slice (some ⟨gg, 0, none⟩) (k + 1) cg) (k + 1) (prs ((xs.take (k + 1)).map fun x => frN p q (bl x) (bl y)))) := Lib.hid (by
                rw [HP.out, prs_snoc]
                exact hownN)
              have HBg : Hid (Below (w.heap.size + 1 + 1 + 1) (w5.alloc (.cells #[.int .i64 (s1 : Int), .int .i64 (s2 : Int)] 28)) w6) := Lib.hid ((Below.refl (w.heap.size + 1 + 1 + 1) _).grown hgrow (Nat.le_trans hsz (below_alloc w5 _).size) (fun z e => (HLt.out z e).1))
              have HC6 : Hid (CarT w (some ⟨b, o, none⟩) b o c xs w.heap.size (w.heap.size + 1) (p : Int) (e : Int) w6) := Lib.hid ((HC5.out.step (below_alloc w5 _)).grow HLi.out (HBg.out.mono (by omega)))
              have HY6 : Hid (w6.cell? ⟨w.heap.size + 1 + 1, 0, none⟩ = some (.string y)) := Lib.hid ((HBg.out.cell (p := ⟨w.heap.size + 1 + 1, 0, none⟩) (by show w.heap.size + 1 + 1 < _; omega)).trans (cell_belowT (below_alloc w5 _) HY5.out))
              clear hownN hgrow hown5 a1 a2 hsz hat hgl
              go_wp2
              go_roundw
              case rel => exact ⟨k + 1, by go_num, hkx, HW6.out, HC6, HY6⟩
              case measure => simp [intOf]; omega
            · obtain rfl : k = xs.length := by omega
              rw [HMap.out _ (Nat.le_refl _), HFin.out] at hown
              obtain ⟨a', g', c', hv, hs', hg', hf'⟩ := seq_of_row hown
              injection hv with hv1 hv2 hv3
              subst hv1 hv3
              have HS := Lib.hid (HUp.out ps ▸ hs')
              have hlen : 0 < (prs (updL S D ps 0)).length := by rw [prs_len, upd_len, HPl.out]; have := HN1.out; omega
              have HPos : Hid (g' < wr.heap.size ∧ w.heap.size + 1 + 1 + 1 ≤ g' ∧ av = some ⟨g', 0, none⟩) := Lib.hid ⟨srcV_lt hs' hlen, hg' hlen, hs'.1 hlen⟩
              have HCe : Hid (CellsP wr g' (updL S D ps 0)) := Lib.hid hs'.2
              have HFe := Lib.hid hf'
              clear hown hs' hg' hf' hlen
              go_wp2_with fail
              refine (SU.out av g' capv _ HS.out).mono ?_
              rintro e' w5 ⟨rfl, hb⟩
              have HCe5 : Hid (CellsP (w5.alloc (.cells #[.int .i64 x1, .int .i64 x2] 28)) g' (updL S D ps 0)) := Lib.hid fun j x hj => cell_belowT (below_alloc w5 _) (cell_belowT hb (HCe.out j x hj))
              have HFe5 : Hid (∀ j, j < (prs (updL S D ps 0)).length → (w5.alloc (.cells #[.int .i64 x1, .int .i64 x2] 28)).frozen? ⟨g', j, none⟩ = false) := Lib.hid fun j hj => frozen_belowB (HPos.out.1) (hb.trans ((below_alloc w5 _).mono hb.size)) (HFe.out j hj)
              have HTA := Lib.hid (two_new w5 x1 x2)
              have HB5 : Hid (Below w.heap.size w (w5.alloc (.cells #[.int .i64 x1, .int .i64 x2] 28))) := Lib.hid (((HCr.out.step hb).step (below_alloc w5 _)).below)
              have HGA : Hid (g' ≠ w5.heap.size ∧ w.heap.size ≤ g') := Lib.hid (by have := HPos.out; have := hb.size; omega)
              have HAv := Lib.hid HPos.out.2.2
              clear hb HS HCe HFe HPos HCr HYr
              obtain ⟨gA, hgA⟩ : ∃ gA, gA = w5.heap.size := ⟨_, rfl⟩
              rw [← hgA] at HTA HGA
              obtain rfl := HAv.out
              go_wp2
              rw [← hgA]
              clear hgA
              generalize w5.alloc (.cells #[.int .i64 x1, .int .i64 x2] 28) = W5 at *
              go_loopw [55] (fun v wr => ∃ k : Nat, v = .int .i64 k ∧ k ≤ xs.length ∧ Hid (CellsP wr g' (updL S D ps k)) ∧ Hid (∀ j, j < (prs (updL S D ps k)).length → wr.frozen? ⟨g', j, none⟩ = false) ∧ Hid (Two wr gA x1 x2) ∧ Hid (Below w.heap.size w wr)) (fun v _ => xs.length - (intOf v).toNat)
              case atStart => exact ⟨0, rfl, Nat.zero_le _, HCe5, HFe5, HTA, HB5⟩
              case round =>
                clear HCe5 HFe5 HTA HB5 HAv
                obtain ⟨k, rfl, hk, HCe, HFe, HTA, HB⟩ := hrel
                by_cases hlt : k < xs.length
                · have hkl : k < ps.length := by rw [HPl.out]; exact hlt
                  have hku : k < (updL S D ps k).length := by rw [upd_len]; exact hkl
                  have hat : (updL S D ps k)[k] = cutN ps[k] D := by
                    have := upd_at (S := S) (D := D) hkl
                    rw [List.getElem?_eq_getElem hku] at this
                    exact Option.some.inj this
                  have d1 := HCe.out _ _ (prs_at hku).1
                  have d2 := HCe.out _ _ (prs_at hku).2
                  rw [hat] at d1 d2
                  have e2 : 2 * k = k * 2 := Nat.mul_comm _ _
                  rw [e2] at d1 d2
                  have HUs := Lib.hid (upd_succ (S := S) (D := D) hkl)
                  have hpD := HIn.out k hkl
                  have HKu := Lib.hid hku
                  clear hat e2 hku
                  generalize ps[k] = t at *
                  obtain ⟨hD0, hD1, hS1, hS0⟩ := hDS.out
                  obtain ⟨c1, c2, c3, c4, c5, c6, _, _⟩ := cut_add (a := t) (c := S) hD0 rfl rfl rfl
                  have O := Lib.hid fun W => oneDen_any (cutN t D).1 (cutN t D).2 (cutN S D).1 (cutN S D).2 _ _ _ W (cut_pos hD0) (cut_pos hD0) (Nat.le_trans (cut_le2 t D) (by omega)) (Nat.le_trans (cut_le2 S D) (by omega)) rfl rfl rfl (Nat.le_trans c3 (by omega)) (Nat.le_trans c4 (by omega)) (Nat.le_trans c5 (by omega))
                  rw [← HX.out.1] at O c2 c4
                  rw [← HX.out.2] at O c2 c3 c4 c5 c6
                  generalize (cutN t D).1 = y1 at *
                  generalize (cutN t D).2 = y2 at *
                  generalize y1 * (x2 / Nat.gcd y2 x2) = n1 at *
                  generalize x1 * (y2 / Nat.gcd y2 x2) = n2 at *
                  generalize y2 / Nat.gcd y2 x2 * x2 = dd at *
                  have hn2 : 0 < n2 := by
                    have e1 := cut_pos (a := t) hS0
                    rw [← c2] at e1
                    exact Nat.lt_of_lt_of_le e1 (cut_le2 n1 n2)
                  have F := Lib.hid fun W => frac_any n1 n2 W (by omega) hn2 (by omega)
                  rw [c2] at F
                  generalize hf1 : (cutN t S).1 = f1 at F
                  generalize hf2 : (cutN t S).2 = f2 at F
                  have HUs2 : Hid (updL S D ps (k + 1) = (updL S D ps k).set k (f1, f2)) := Lib.hid (by rw [HUs.out, ← hf1, ← hf2])
                  have hkx : k + 1 ≤ xs.length := by omega
                  have j0 : (0 : Int) ≤ (k : Int) := by omega
                  have j1 : (k : Int) < (xs.length : Int) := by omega
                  have j2 : (k : Int) + 1 ≤ 11 := by omega
                  have HYb := Lib.hid (two_new wr y1 y2)
                  have HTb := Lib.hid (other_alloc HTA.out (.cells #[.int .i64 y1, .int .i64 y2] 28))
                  have HBb := Lib.hid (HB.out.alloc HB.out.size (.cells #[.int .i64 y1, .int .i64 y2] 28))
                  have t1 := load_two HYb.out
                  have t2 := load_two HTb.out
                  have t3 := HTb.out.cell0
                  have t4 := HTb.out.cell1
                  have HFr : Hid (∀ W, Below wr.heap.size wr W → W.frozen? ⟨g', k * 2, none⟩ = false ∧ W.frozen? ⟨g', k * 2 + 1, none⟩ = false ∧ W.cell? ⟨g', k * 2, none⟩ = some (.int .i64 y1) ∧ W.cell? ⟨g', k * 2 + 1, none⟩ = some (.int .i64 y2)) := Lib.hid fun W hb => by
                    have hgl := World.block_lt_of_cell? _ _ d1
                    have hl2 : k * 2 + 1 < (prs (updL S D ps k)).length := by rw [prs_len]; have := HKu.out; omega
                    exact ⟨frozen_belowB hgl hb (HFe.out _ (by omega)), frozen_belowB hgl hb (HFe.out _ hl2), cell_belowT hb d1, cell_belowT hb d2⟩
                  clear c1 c2 c3 c4 c5 c6 hf1 hf2 hn2 hpD hD0 hD1 hS1 hS0 hkl HUs hn10
                  go_wp2_with fail
                  refine (O.out _).mono ?_
                  rintro e' w7 ⟨rfl, hb⟩
                  have HB7' : Hid (Below wr.heap.size wr w7) := Lib.hid ((below_alloc wr _).trans (hb.mono (below_alloc wr _).size))
                  clear hb t1 t2 t3 t4 d1 d2
                  go_wp2_with fail
                  refine (F.out _).mono ?_
                  rintro e' w8 ⟨rfl, hb⟩
                  have HB8' : Hid (Below wr.heap.size wr w8) := Lib.hid (HB7'.out.trans (hb.mono HB7'.out.size))
                  obtain ⟨r0, r1, r2, r3⟩ := HFr.out w8 HB8'.out
                  have HB8 := Lib.hid (HB.out.trans (HB8'.out.mono HB.out.size))
                  have HT8 := Lib.hid (HTA.out.below HB8'.out)
                  have HC8 : Hid (CellsP w8 g' (updL S D ps k)) := Lib.hid fun j x hj => cell_belowT HB8'.out (HCe.out j x hj)
                  have HF8 : Hid (∀ j, j < (prs (updL S D ps k)).length → w8.frozen? ⟨g', j, none⟩ = false) := Lib.hid fun j hj => frozen_belowB (World.block_lt_of_cell? _ _ (HCe.out j _ (List.getElem?_eq_getElem hj))) HB8'.out (HFe.out j hj)
                  clear hb
                  go_wp2
                  go_roundw
                  case rel => exact ⟨k + 1, by go_num, hkx, Lib.hid (by rw [HUs2.out]; exact cells_set HC8.out HKu.out), Lib.hid (fun j hj => by
                      rw [World.frozen?_setCell, World.frozen?_setCell]
                      exact HF8.out j (by rw [prs_len, upd_len] at hj ⊢; exact hj)), Lib.hid ((HT8.out.other (p := ⟨g', k * 2, none⟩) HGA.out.1 _).other (p := ⟨g', k * 2 + 1, none⟩) HGA.out.1 _), Lib.hid ((HB8.out.setCell (p := ⟨g', k * 2, none⟩) HGA.out.2 _).setCell (p := ⟨g', k * 2 + 1, none⟩) HGA.out.2 _)⟩
                  case measure => simp [intOf]; omega
                · obtain rfl : k = xs.length := by omega
                  rw [HEnd.out] at HCe HFe
                  go_wp2
                  go_ret2
                  exact ⟨_, g', capv, rfl, ⟨fun _ => rfl, HCe.out⟩, fun _ => HGA.out.2, HFe.out, HB.out⟩

theorem csL_len (N d : Int) (xs : List ByteArray) (y : ByteArray) : (csL N d xs y).length ≤ 1000 := by
  unfold csL
  split
  · rename_i h
    unfold csOk csB at h
    rw [Bool.and_eq_true, Bool.and_eq_true, Bool.and_eq_true] at h
    have := ((tableB_iff xs).1 h.1.1.1).1.2
    rw [frs_len, sn_len]; omega
  · simp
theorem chancesSent_both (xs : List ByteArray) (N d : Int) (y : ByteArray) (hl : xs.length ≤ 1048576) (ht : ∀ x ∈ xs, x.size ≤ 1048576) (hy : y.size ≤ 1048576) : ∃ (l : List (Nat × Nat)) (R1 : Bool), l.length ≤ 1000 ∧
    Hid (∀ W a b o c, ListIn W a b o xs → Calls Try.prog 34 #[.agg #[.slice a xs.length c], .agg #[.int .i64 N, .int .i64 d], .string y] W (SeqOut (prs l) l.length R1 W)) ∧
    Hid (∀ W a b o c, ListIn W a b o xs → Calls Try.prog 35 #[.agg #[.slice a xs.length c], .agg #[.int .i64 N, .int .i64 d], .string y] W (SeqOut (prs l) l.length R1 W)) :=
  ⟨csL N d xs y, csOk N d xs y, csL_len N d xs y, fun W a b o c h => sChancesSent_any a b o c xs N d y W h (by unfold maxLen; omega), fun W a b o c h => chancesSent_any a b o c xs N d y W h (by unfold maxLen; omega)⟩
end Go.Proofs.Ytomhjfjfmjacfaa
