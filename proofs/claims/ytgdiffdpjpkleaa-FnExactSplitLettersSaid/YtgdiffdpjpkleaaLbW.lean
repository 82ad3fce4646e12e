/-
  LettersBy of the program: the letters whose marks come of those of a letter by one mistake of a kind. Used by the claims on chapter 6.
-/
import Derived.Test.YtgdiffdpjpkleaaCpS
import Derived.Test.YtgdiffdpjpkleaaMarkB
namespace Go.Proofs.Ytgdiffdpjpkleaa
open Go.RowKit Go.Maps
set_option linter.unusedVariables false

def byK (xs : List ByteArray) (want : Int) (l : List Nat) : List Nat := l.filter fun i => decide (((atB xs i).size : Int) = want)
theorem byK_snoc (xs : List ByteArray) (want : Int) (l : List Nat) (i : Nat) : byK xs want (l ++ [i]) = byK xs want l ++ (if ((atB xs i).size : Int) = want then [i] else []) := by
  unfold byK
  rw [List.filter_append]
  by_cases h : ((atB xs i).size : Int) = want <;> simp [h]
theorem byK_le (xs : List ByteArray) (want : Int) (l : List Nat) : (byK xs want l).length ≤ l.length := List.length_filter_le _ _
theorem take_snocN (l : List Nat) (k : Nat) (h : k < l.length) : l.take (k + 1) = l.take k ++ [l[k]] := by
  rw [List.take_add_one, List.getElem?_eq_getElem h]; rfl
/-- What LettersBy answers. -/
def lbOk (xs : List ByteArray) (i kind : Int) : Bool := (marksR xs i).2 && (decide (0 ≤ kind) && decide (kind ≤ 2))
def wantZ (x : ByteArray) (kind : Int) : Int := if kind = 0 then (x.size : Int) else if kind = 1 then (x.size : Int) - 1 else (x.size : Int) + 1
def lbL (xs : List ByteArray) (i kind : Int) : List Nat := if lbOk xs i kind = true then byK xs (wantZ (marksR xs i).1 kind) (byOn (farB xs (marksR xs i).1) 1 (List.range xs.length)) else []
theorem lbL_le (xs : List ByteArray) (i kind : Int) : (lbL xs i kind).length ≤ xs.length := by
  unfold lbL
  split
  · refine Nat.le_trans (byK_le _ _ _) ?_
    have := byOn_le (farB xs (marksR xs i).1) 1 (List.range xs.length)
    rwa [List.length_range] at this
  · simp
theorem marksR_yes {xs : List ByteArray} {i : Int} (h : (marksR xs i).2 = true) : tableB xs = true ∧ 0 ≤ i ∧ i < xs.length ∧ (marksR xs i).1 = atB xs i.toNat := by
  unfold marksR at h ⊢
  by_cases hc : tableB xs = true ∧ 0 ≤ i ∧ i < xs.length
  · rw [if_pos hc]; exact ⟨hc.1, hc.2.1, hc.2.2, rfl⟩
  · rw [if_neg hc] at h; cases h
theorem marksR_no {xs : List ByteArray} {i : Int} (h : (marksR xs i).2 = false) : (marksR xs i).1 = ⟨#[]⟩ := by
  unfold marksR at h ⊢
  by_cases hc : tableB xs = true ∧ 0 ≤ i ∧ i < xs.length
  · rw [if_pos hc] at h; cases h
  · rw [if_neg hc]

set_option maxHeartbeats 8000000 in
set_option maxRecDepth 8000 in
theorem lettersBy_any (a : Option Addr) (b o c : Nat) (xs : List ByteArray) (i kind : Int) (w : World) (h : ListIn w a b o xs) :
    Calls Try.prog 30 #[.agg #[.slice a xs.length c], .int .i64 i, .int .i64 kind] w (SeqOut (ints (lbL xs i kind)) (lbL xs i kind).length (lbOk xs i kind) w) := by
  have hl := h.len
  have F := Lib.hid fun W hb => marksOf_any a b o c xs i W (h.below (w' := W) hb)
  have HS := Lib.hid h
  clear h
  cases hm : (marksR xs i).2 with
  | false =>
    have HR : Hid (lbOk xs i kind = false) := Lib.hid (by unfold lbOk; rw [hm]; rfl)
    have HL : Hid (lbL xs i kind = []) := Lib.hid (if_neg (by rw [HR.out]; simp))
    rw [HR.out, HL.out]
    rw [hm, marksR_no hm] at F
    clear hm
    go_enter Try.func30, Try.ntmps30
    go_wp2_with fail
    refine (F.out _ (below_alloc _ _)).mono ?_
    rintro e w1 ⟨rfl, hb⟩
    have HB := Lib.hid ((below_alloc w (.cells #[.slice a xs.length c] 32)).trans (hb.mono (by simp)))
    clear hb
    go_wp2
    go_ret2
    exact seqOut_nothing HB.out _ _
  | true =>
    obtain ⟨ht, hi0, hin, hx⟩ := marksR_yes hm
    have hx5 : (marksR xs i).1.size ≤ 5 ∧ 1 ≤ (marksR xs i).1.size := by
      rw [hx]
      have := marksL_size (((tableB_iff xs).1 ht).2.1 _ (atB_mem (xs := xs) (i := i.toNat) (by omega)))
      omega
    rw [hm] at F
    have HLk : Hid (lbL xs i kind = if lbOk xs i kind = true then byK xs (wantZ (marksR xs i).1 kind) (byOn (farB xs (marksR xs i).1) 1 (List.range xs.length)) else []) := Lib.hid rfl
    have HRk : Hid (lbOk xs i kind = (decide (0 ≤ kind) && decide (kind ≤ 2))) := Lib.hid (by unfold lbOk; rw [hm, Bool.true_and])
    generalize (marksR xs i).1 = x at F hx5 HLk
    clear hm hx
    have E := Lib.hid fun W hb => byDistance_any a b o c xs x W (HS.out.below (w' := W) hb) (marks5 ht) (table_le ht).2 hx5.1
    have H5 := Lib.hid (marks5 ht)
    have hn10 := (table_le ht).2
    have hx1 := hx5.1
    have hx2 := hx5.2
    obtain ⟨i0, hi, hz0, hz1, hz2⟩ := info_parts infoI
    clear ht hx5
    by_cases hk0 : kind = 0
    · subst hk0
      have HR : Hid (lbOk xs i 0 = true) := Lib.hid (by rw [HRk.out]; rfl)
      have HL : Hid (lbL xs i 0 = byK xs (x.size : Int) (byOn (farB xs x) 1 (List.range xs.length))) := Lib.hid (by rw [HLk.out, if_pos HR.out]; rfl)
      rw [HR.out, HL.out]
      clear HLk HRk
      obtain ⟨ys, hys⟩ : ∃ ys, byOn (farB xs x) 1 (List.range xs.length) = ys := ⟨_, rfl⟩
      rw [hys]
      have HYs := Lib.hid hys
      clear hys HL
      go_enter Try.func30, Try.ntmps30
      go_wp2_with fail
      refine (F.out _ (below_alloc _ _)).mono ?_
      rintro e w1 ⟨rfl, hb⟩
      have hc1 : w1.cell? ⟨w.heap.size, 0, none⟩ = some (.slice a xs.length c) := (hb.cell (p := ⟨w.heap.size, 0, none⟩) (by simp)).trans (cell_new _ _ _)
      have HB1 := Lib.hid ((below_alloc w (.cells #[.slice a xs.length c] 32)).trans (hb.mono (by simp)))
      have hsz1 : w.heap.size + 1 ≤ w1.heap.size := by have := hb.size; simpa using this
      have HR1 := Lib.hid (row_empty w1 (w.heap.size + 1) hsz1)
      have hc2 := keep_cell w1 (Obj.cells #[] 3) hc1
      have HB2 := Lib.hid (HB1.out.alloc HB1.out.size (Obj.cells #[] 3))
      clear hb hc1
      go_wp2_with fail
      refine (E.out _ HB2.out).mono ?_
      rintro e w3 ⟨B, D, sv, rfl, hB, hG, hb⟩
      have hc3 := cell_below hb hc2
      have HB3 := Lib.hid (HB2.out.trans (hb.mono HB2.out.size))
      have HR3 := Lib.hid (row_below HR1.out hb)
      have hsz3 : w.heap.size + 1 ≤ w3.heap.size := Nat.le_trans hsz1 (Nat.le_trans (by simp) hb.size)
      have HZ3 := Lib.hid hsz3
      have hrow1 : w3.ownsRow (B + 1) 3 1 (sv 1) (byOn (farB xs x) 1 (List.range xs.length)).length (ints (byOn (farB xs x) 1 (List.range xs.length))) := hG.row 1
      rw [HYs.out] at hrow1
      obtain ⟨av, gv, cv, hsv, hsrc, hgv, _⟩ := seq_of_row hrow1
      have hat0 := hG.at_ 1
      rw [hsv] at hat0
      have HA0 := Lib.hid hat0
      have HOm := Lib.hid hG.own
      have HKo := Lib.hid (keyN_of (d := 1) (by omega))
      have HSr := Lib.hid hsrc
      have HNe : Hid (0 < ys.length → (Value.slice (some ⟨w1.heap.size, 0, none⟩) 0 0).ownBlock ≠ some gv) := Lib.hid fun h0 e => by
        have h1 := hgv (by rw [ints_len]; exact h0)
        have e2 : w1.heap.size = gv := by simpa [Value.ownBlock] using e
        simp at hB
        omega
      have HMem : Hid (∀ q ∈ ys, q < xs.length) := Lib.hid fun q hq => List.mem_range.1 (mem_byOn.1 (by rw [HYs.out]; exact hq)).1
      have hle : ys.length ≤ xs.length := by rw [← HYs.out]; have := byOn_le (farB xs x) 1 (List.range xs.length); rwa [List.length_range] at this
      clear hat0 hsv hsrc hgv hB hG hb hc2 hsz1 hrow1
      go_wp2_with (first
        | (at_lookup; refine wpList_lookup_raw _ rfl _ _ 88 rfl 3 29 lawN Try.underlying88 (.slice none 0 0) (zeroIS _) B xs.length D rfl HOm.out _ _ rfl HKo.out (.slice av ys.length cv) HA0.out ?_)
        | go_in)
      go_loopw [11, 41] (fun pv v wr => ∃ k : Nat, v = .int .i64 k ∧ k ≤ ys.length ∧ wr.ownsRow (w.heap.size + 1) 3 1 pv (byK xs (x.size : Int) (ys.take k)).length (ints (byK xs (x.size : Int) (ys.take k))) ∧ wr.cell? ⟨w.heap.size, 0, none⟩ = some (.slice a xs.length c) ∧ Hid (Below w.heap.size w wr) ∧ Hid (SrcV wr av gv (ints ys)) ∧ Hid (0 < ys.length → pv.ownBlock ≠ some gv) ∧ Hid (w.heap.size + 1 ≤ wr.heap.size)) (fun _ v _ => ys.length - (intOf v).toNat)
      case atStart => exact ⟨0, rfl, Nat.zero_le _, HR3.out, hc3, HB3, HSr, HNe, HZ3⟩
      case round =>
        clear hc3
        obtain ⟨k, rfl, hk, hown, hc1, HBw, HSk, HNk, HZk⟩ := hrel
        obtain ⟨pv, capv, rfl⟩ := row_form hown
        have hszw := HZk.out
        by_cases hlt : k < ys.length
        · obtain rfl := HSk.out.1 (by rw [ints_len]; omega)
          have d1 := HSk.out.2 k _ (ints_at hlt)
          have HGl : Hid (gv < wr.heap.size) := Lib.hid (srcV_lt HSk.out (by rw [ints_len]; omega))
          have HNg := Lib.hid (HNk.out (by omega))
          have hyn := HMem.out ys[k] (List.getElem_mem hlt)
          have HTk := Lib.hid (take_snocN ys k hlt)
          generalize ys[k] = y at d1 hyn HTk
          obtain rfl := HS.out.src.1 (by omega)
          have hcY := (HS.out.below HBw.out).src.2 y _ (List.getElem?_eq_getElem hyn)
          have HY := Lib.hid (atB_eq (List.getElem?_eq_getElem hyn))
          have hz5 := H5.out _ (List.getElem_mem hyn)
          generalize xs[y] = z at hcY HY hz5
          have HSn := Lib.hid (byK_snoc xs (x.size : Int) (ys.take k) y)
          rw [← HTk.out, HY.out] at HSn
          have hpl : (byK xs (x.size : Int) (ys.take k)).length ≤ 10 := by have := byK_le xs (x.size : Int) (ys.take k); have := List.length_take_le k ys; omega
          have HOw := Lib.hid hown
          generalize byK xs (x.size : Int) (ys.take k) = ps at HOw HSn hpl HNg HNk
          clear hown
          have k1 : (0 : Int) ≤ (k : Int) := by omega
          have k2 : (k : Int) < (ys.length : Int) := by omega
          have y1 : (0 : Int) ≤ (y : Int) := by omega
          have y2 : (y : Int) < (xs.length : Int) := by omega
          by_cases hw : (z.size : Int) = (x.size : Int)
          · have HE : Hid (byK xs (x.size : Int) (ys.take (k + 1)) = ps ++ [y]) := Lib.hid (by rw [HSn.out, if_pos hw])
            have t1 : ((z.size : Int) == (x.size : Int)) = true := by rw [hw]; simp
            have HLt3 : Hid (∀ q, (Value.slice pv ps.length capv).ownBlock = some q → w.heap.size + 1 ≤ q) := Lib.hid fun q e => (ownBlock_ge HOw.out e).1
            clear hw HSn
            go_wp2_with (first | (at_builtin; refine wpList_append_lies _ rfl _ _ 29 rfl (w.heap.size + 1) 3 i0 (.int .i64 0) 1 8 Try.underlying29 hi hz0 hz1 hz2 rfl (by decide) (.slice pv ps.length capv) ps.length (ints ps) rfl (HOw.out.alloc _) ⟨wr.heap.size, 0, none⟩ 1 1 [.int .i64 (y : Int)] rfl rfl (cell_one_new _ _ _) (by simp [Value.oneCell']) (by omega) (by unfold maxLen; omega) (by omega) (by simp; omega) (wr.heap.size + 1) (by simp) ?_; intro gg capg w4 hown4 hgrow4 hat4 hglt4) | go_in)
            have HW4 : Hid (w4.ownsRow (w.heap.size + 1) 3 1 (.slice (some ⟨gg, 0, none⟩) (ps.length + 1) capg) (byK xs (x.size : Int) (ys.take (k + 1))).length (ints (byK xs (x.size : Int) (ys.take (k + 1))))) := Lib.hid (by rw [HE.out, ints_snoc]; simpa using hown4)
            have hc4 : w4.cell? ⟨w.heap.size, 0, none⟩ = some (.slice (some ⟨b, o, none⟩) xs.length c) := (World.cell?_of_block (a := ⟨w.heap.size, 0, none⟩) (hgrow4.block w.heap.size (by simp; omega) (fun e => by have := HLt3.out _ e.symm; omega))).trans (keep_cell _ _ hc1)
            have HB4 : Hid (Below w.heap.size w w4) := Lib.hid ((HBw.out.alloc HBw.out.size _).grown hgrow4 (by have := HBw.out.size; simp; omega) (fun q e => by have := HLt3.out q e; omega))
            have HS4 : Hid (SrcV w4 (some ⟨gv, 0, none⟩) gv (ints ys)) := Lib.hid ⟨fun _ => rfl, fun j v hv => (World.cell?_of_block (a := ⟨gv, j, none⟩) (hgrow4.block gv (by have := HGl.out; simp; omega) (fun e => HNg.out e.symm))).trans ((HSk.out.alloc _).2 j v hv)⟩
            have HN4 : Hid (0 < ys.length → (Value.slice (some ⟨gg, 0, none⟩) (ps.length + 1) capg).ownBlock ≠ some gv) := Lib.hid fun _ e => by
              have e2 : gg = gv := by simpa [Value.ownBlock] using e
              rcases hat4 with h9 | h9
              · exact HNg.out (by rw [h9, e2])
              · have := HGl.out; omega
            have HZ4 : Hid (w.heap.size + 1 ≤ w4.heap.size) := Lib.hid (Nat.le_trans hszw (Nat.le_trans (by simp) hgrow4.size))
            clear hown4 hgrow4 hat4 hglt4 hc1
            go_wp2
            go_roundw
            case rel => exact ⟨k + 1, by go_num, by omega, HW4.out, hc4, HB4, HS4, HN4, HZ4⟩
            case measure => simp [intOf]; omega
          · have HE : Hid (byK xs (x.size : Int) (ys.take (k + 1)) = ps) := Lib.hid (by rw [HSn.out, if_neg hw, List.append_nil])
            have t1 : ((z.size : Int) == (x.size : Int)) = false := beq_false_of_ne hw
            have HW4 : Hid (wr.ownsRow (w.heap.size + 1) 3 1 (.slice pv ps.length capv) (byK xs (x.size : Int) (ys.take (k + 1))).length (ints (byK xs (x.size : Int) (ys.take (k + 1))))) := Lib.hid (by rw [HE.out]; exact HOw.out)
            clear hw HSn
            go_wp2
            go_roundw
            case rel => exact ⟨k + 1, by go_num, by omega, HW4.out, hc1, HBw, HSk, HNk, HZk⟩
            case measure => simp [intOf]; omega
        · obtain rfl : k = ys.length := by omega
          rw [List.take_length] at hown ⊢
          have HO3 := Lib.hid (row_mono hown (Nat.le_succ w.heap.size))
          clear hown
          go_wp2
          go_ret2
          have hfin := seqOut_row HO3.out (Nat.le_refl _) HBw.out
          exact hfin
    · by_cases hk1 : kind = 1
      · subst hk1
        have HR : Hid (lbOk xs i 1 = true) := Lib.hid (by rw [HRk.out]; rfl)
        have HL : Hid (lbL xs i 1 = byK xs ((x.size : Int) - 1) (byOn (farB xs x) 1 (List.range xs.length))) := Lib.hid (by rw [HLk.out, if_pos HR.out]; rfl)
        rw [HR.out, HL.out]
        clear HLk HRk hk0
        obtain ⟨ys, hys⟩ : ∃ ys, byOn (farB xs x) 1 (List.range xs.length) = ys := ⟨_, rfl⟩
        rw [hys]
        have HYs := Lib.hid hys
        clear hys HL
        go_enter Try.func30, Try.ntmps30
        go_wp2_with fail
        refine (F.out _ (below_alloc _ _)).mono ?_
        rintro e w1 ⟨rfl, hb⟩
        have hc1 : w1.cell? ⟨w.heap.size, 0, none⟩ = some (.slice a xs.length c) := (hb.cell (p := ⟨w.heap.size, 0, none⟩) (by simp)).trans (cell_new _ _ _)
        have HB1 := Lib.hid ((below_alloc w (.cells #[.slice a xs.length c] 32)).trans (hb.mono (by simp)))
        have hsz1 : w.heap.size + 1 ≤ w1.heap.size := by have := hb.size; simpa using this
        have HR1 := Lib.hid (row_empty w1 (w.heap.size + 1) hsz1)
        have hc2 := keep_cell w1 (Obj.cells #[] 3) hc1
        have HB2 := Lib.hid (HB1.out.alloc HB1.out.size (Obj.cells #[] 3))
        clear hb hc1
        go_wp2_with fail
        refine (E.out _ HB2.out).mono ?_
        rintro e w3 ⟨B, D, sv, rfl, hB, hG, hb⟩
        have hc3 := cell_below hb hc2
        have HB3 := Lib.hid (HB2.out.trans (hb.mono HB2.out.size))
        have HR3 := Lib.hid (row_below HR1.out hb)
        have hsz3 : w.heap.size + 1 ≤ w3.heap.size := Nat.le_trans hsz1 (Nat.le_trans (by simp) hb.size)
        have HZ3 := Lib.hid hsz3
        have hrow1 : w3.ownsRow (B + 1) 3 1 (sv 1) (byOn (farB xs x) 1 (List.range xs.length)).length (ints (byOn (farB xs x) 1 (List.range xs.length))) := hG.row 1
        rw [HYs.out] at hrow1
        obtain ⟨av, gv, cv, hsv, hsrc, hgv, _⟩ := seq_of_row hrow1
        have hat0 := hG.at_ 1
        rw [hsv] at hat0
        have HA0 := Lib.hid hat0
        have HOm := Lib.hid hG.own
        have HKo := Lib.hid (keyN_of (d := 1) (by omega))
        have HSr := Lib.hid hsrc
        have HNe : Hid (0 < ys.length → (Value.slice (some ⟨w1.heap.size, 0, none⟩) 0 0).ownBlock ≠ some gv) := Lib.hid fun h0 e => by
          have h1 := hgv (by rw [ints_len]; exact h0)
          have e2 : w1.heap.size = gv := by simpa [Value.ownBlock] using e
          simp at hB
          omega
        have HMem : Hid (∀ q ∈ ys, q < xs.length) := Lib.hid fun q hq => List.mem_range.1 (mem_byOn.1 (by rw [HYs.out]; exact hq)).1
        have hle : ys.length ≤ xs.length := by rw [← HYs.out]; have := byOn_le (farB xs x) 1 (List.range xs.length); rwa [List.length_range] at this
        clear hat0 hsv hsrc hgv hB hG hb hc2 hsz1 hrow1
        go_wp2_with (first
          | (at_lookup; refine wpList_lookup_raw _ rfl _ _ 88 rfl 3 29 lawN Try.underlying88 (.slice none 0 0) (zeroIS _) B xs.length D rfl HOm.out _ _ rfl HKo.out (.slice av ys.length cv) HA0.out ?_)
          | go_in)
        go_loopw [11, 41] (fun pv v wr => ∃ k : Nat, v = .int .i64 k ∧ k ≤ ys.length ∧ wr.ownsRow (w.heap.size + 1) 3 1 pv (byK xs ((x.size : Int) - 1) (ys.take k)).length (ints (byK xs ((x.size : Int) - 1) (ys.take k))) ∧ wr.cell? ⟨w.heap.size, 0, none⟩ = some (.slice a xs.length c) ∧ Hid (Below w.heap.size w wr) ∧ Hid (SrcV wr av gv (ints ys)) ∧ Hid (0 < ys.length → pv.ownBlock ≠ some gv) ∧ Hid (w.heap.size + 1 ≤ wr.heap.size)) (fun _ v _ => ys.length - (intOf v).toNat)
        case atStart => exact ⟨0, rfl, Nat.zero_le _, HR3.out, hc3, HB3, HSr, HNe, HZ3⟩
        case round =>
          clear hc3
          obtain ⟨k, rfl, hk, hown, hc1, HBw, HSk, HNk, HZk⟩ := hrel
          obtain ⟨pv, capv, rfl⟩ := row_form hown
          have hszw := HZk.out
          by_cases hlt : k < ys.length
          · obtain rfl := HSk.out.1 (by rw [ints_len]; omega)
            have d1 := HSk.out.2 k _ (ints_at hlt)
            have HGl : Hid (gv < wr.heap.size) := Lib.hid (srcV_lt HSk.out (by rw [ints_len]; omega))
            have HNg := Lib.hid (HNk.out (by omega))
            have hyn := HMem.out ys[k] (List.getElem_mem hlt)
            have HTk := Lib.hid (take_snocN ys k hlt)
            generalize ys[k] = y at d1 hyn HTk
            obtain rfl := HS.out.src.1 (by omega)
            have hcY := (HS.out.below HBw.out).src.2 y _ (List.getElem?_eq_getElem hyn)
            have HY := Lib.hid (atB_eq (List.getElem?_eq_getElem hyn))
            have hz5 := H5.out _ (List.getElem_mem hyn)
            generalize xs[y] = z at hcY HY hz5
            have HSn := Lib.hid (byK_snoc xs ((x.size : Int) - 1) (ys.take k) y)
            rw [← HTk.out, HY.out] at HSn
            have hpl : (byK xs ((x.size : Int) - 1) (ys.take k)).length ≤ 10 := by have := byK_le xs ((x.size : Int) - 1) (ys.take k); have := List.length_take_le k ys; omega
            have HOw := Lib.hid hown
            generalize byK xs ((x.size : Int) - 1) (ys.take k) = ps at HOw HSn hpl HNg HNk
            clear hown
            have k1 : (0 : Int) ≤ (k : Int) := by omega
            have k2 : (k : Int) < (ys.length : Int) := by omega
            have y1 : (0 : Int) ≤ (y : Int) := by omega
            have y2 : (y : Int) < (xs.length : Int) := by omega
            by_cases hw : (z.size : Int) = ((x.size : Int) - 1)
            · have HE : Hid (byK xs ((x.size : Int) - 1) (ys.take (k + 1)) = ps ++ [y]) := Lib.hid (by rw [HSn.out, if_pos hw])
              have t1 : ((z.size : Int) == ((x.size : Int) - 1)) = true := by rw [hw]; simp
              have HLt3 : Hid (∀ q, (Value.slice pv ps.length capv).ownBlock = some q → w.heap.size + 1 ≤ q) := Lib.hid fun q e => (ownBlock_ge HOw.out e).1
              clear hw HSn
              go_wp2_with (first | (at_builtin; refine wpList_append_lies _ rfl _ _ 29 rfl (w.heap.size + 1) 3 i0 (.int .i64 0) 1 8 Try.underlying29 hi hz0 hz1 hz2 rfl (by decide) (.slice pv ps.length capv) ps.length (ints ps) rfl (HOw.out.alloc _) ⟨wr.heap.size, 0, none⟩ 1 1 [.int .i64 (y : Int)] rfl rfl (cell_one_new _ _ _) (by simp [Value.oneCell']) (by omega) (by unfold maxLen; omega) (by omega) (by simp; omega) (wr.heap.size + 1) (by simp) ?_; intro gg capg w4 hown4 hgrow4 hat4 hglt4) | go_in)
              have HW4 : Hid (w4.ownsRow (w.heap.size + 1) 3 1 (.slice (some ⟨gg, 0, none⟩) (ps.length + 1) capg) (byK xs ((x.size : Int) - 1) (ys.take (k + 1))).length (ints (byK xs ((x.size : Int) - 1) (ys.take (k + 1))))) := Lib.hid (by rw [HE.out, ints_snoc]; simpa using hown4)
              have hc4 : w4.cell? ⟨w.heap.size, 0, none⟩ = some (.slice (some ⟨b, o, none⟩) xs.length c) := (World.cell?_of_block (a := ⟨w.heap.size, 0, none⟩) (hgrow4.block w.heap.size (by simp; omega) (fun e => by have := HLt3.out _ e.symm; omega))).trans (keep_cell _ _ hc1)
              have HB4 : Hid (Below w.heap.size w w4) := Lib.hid ((HBw.out.alloc HBw.out.size _).grown hgrow4 (by have := HBw.out.size; simp; omega) (fun q e => by have := HLt3.out q e; omega))
              have HS4 : Hid (SrcV w4 (some ⟨gv, 0, none⟩) gv (ints ys)) := Lib.hid ⟨fun _ => rfl, fun j v hv => (World.cell?_of_block (a := ⟨gv, j, none⟩) (hgrow4.block gv (by have := HGl.out; simp; omega) (fun e => HNg.out e.symm))).trans ((HSk.out.alloc _).2 j v hv)⟩
              have HN4 : Hid (0 < ys.length → (Value.slice (some ⟨gg, 0, none⟩) (ps.length + 1) capg).ownBlock ≠ some gv) := Lib.hid fun _ e => by
                have e2 : gg = gv := by simpa [Value.ownBlock] using e
                rcases hat4 with h9 | h9
                · exact HNg.out (by rw [h9, e2])
                · have := HGl.out; omega
              have HZ4 : Hid (w.heap.size + 1 ≤ w4.heap.size) := Lib.hid (Nat.le_trans hszw (Nat.le_trans (by simp) hgrow4.size))
              clear hown4 hgrow4 hat4 hglt4 hc1
              go_wp2
              go_roundw
              case rel => exact ⟨k + 1, by go_num, by omega, HW4.out, hc4, HB4, HS4, HN4, HZ4⟩
              case measure => simp [intOf]; omega
            · have HE : Hid (byK xs ((x.size : Int) - 1) (ys.take (k + 1)) = ps) := Lib.hid (by rw [HSn.out, if_neg hw, List.append_nil])
              have t1 : ((z.size : Int) == ((x.size : Int) - 1)) = false := beq_false_of_ne hw
              have HW4 : Hid (wr.ownsRow (w.heap.size + 1) 3 1 (.slice pv ps.length capv) (byK xs ((x.size : Int) - 1) (ys.take (k + 1))).length (ints (byK xs ((x.size : Int) - 1) (ys.take (k + 1))))) := Lib.hid (by rw [HE.out]; exact HOw.out)
              clear hw HSn
              go_wp2
              go_roundw
              case rel => exact ⟨k + 1, by go_num, by omega, HW4.out, hc1, HBw, HSk, HNk, HZk⟩
              case measure => simp [intOf]; omega
          · obtain rfl : k = ys.length := by omega
            rw [List.take_length] at hown ⊢
            have HO3 := Lib.hid (row_mono hown (Nat.le_succ w.heap.size))
            clear hown
            go_wp2
            go_ret2
            have hfin := seqOut_row HO3.out (Nat.le_refl _) HBw.out
            exact hfin
      · by_cases hk2 : kind = 2
        · subst hk2
          have HR : Hid (lbOk xs i 2 = true) := Lib.hid (by rw [HRk.out]; rfl)
          have HL : Hid (lbL xs i 2 = byK xs ((x.size : Int) + 1) (byOn (farB xs x) 1 (List.range xs.length))) := Lib.hid (by rw [HLk.out, if_pos HR.out]; rfl)
          rw [HR.out, HL.out]
          clear HLk HRk hk0 hk1
          obtain ⟨ys, hys⟩ : ∃ ys, byOn (farB xs x) 1 (List.range xs.length) = ys := ⟨_, rfl⟩
          rw [hys]
          have HYs := Lib.hid hys
          clear hys HL
          go_enter Try.func30, Try.ntmps30
          go_wp2_with fail
          refine (F.out _ (below_alloc _ _)).mono ?_
          rintro e w1 ⟨rfl, hb⟩
          have hc1 : w1.cell? ⟨w.heap.size, 0, none⟩ = some (.slice a xs.length c) := (hb.cell (p := ⟨w.heap.size, 0, none⟩) (by simp)).trans (cell_new _ _ _)
          have HB1 := Lib.hid ((below_alloc w (.cells #[.slice a xs.length c] 32)).trans (hb.mono (by simp)))
          have hsz1 : w.heap.size + 1 ≤ w1.heap.size := by have := hb.size; simpa using this
          have HR1 := Lib.hid (row_empty w1 (w.heap.size + 1) hsz1)
          have hc2 := keep_cell w1 (Obj.cells #[] 3) hc1
          have HB2 := Lib.hid (HB1.out.alloc HB1.out.size (Obj.cells #[] 3))
          clear hb hc1
          go_wp2_with fail
          refine (E.out _ HB2.out).mono ?_
          rintro e w3 ⟨B, D, sv, rfl, hB, hG, hb⟩
          have hc3 := cell_below hb hc2
          have HB3 := Lib.hid (HB2.out.trans (hb.mono HB2.out.size))
          have HR3 := Lib.hid (row_below HR1.out hb)
          have hsz3 : w.heap.size + 1 ≤ w3.heap.size := Nat.le_trans hsz1 (Nat.le_trans (by simp) hb.size)
          have HZ3 := Lib.hid hsz3
          have hrow1 : w3.ownsRow (B + 1) 3 1 (sv 1) (byOn (farB xs x) 1 (List.range xs.length)).length (ints (byOn (farB xs x) 1 (List.range xs.length))) := hG.row 1
          rw [HYs.out] at hrow1
          obtain ⟨av, gv, cv, hsv, hsrc, hgv, _⟩ := seq_of_row hrow1
          have hat0 := hG.at_ 1
          rw [hsv] at hat0
          have HA0 := Lib.hid hat0
          have HOm := Lib.hid hG.own
          have HKo := Lib.hid (keyN_of (d := 1) (by omega))
          have HSr := Lib.hid hsrc
          have HNe : Hid (0 < ys.length → (Value.slice (some ⟨w1.heap.size, 0, none⟩) 0 0).ownBlock ≠ some gv) := Lib.hid fun h0 e => by
            have h1 := hgv (by rw [ints_len]; exact h0)
            have e2 : w1.heap.size = gv := by simpa [Value.ownBlock] using e
            simp at hB
            omega
          have HMem : Hid (∀ q ∈ ys, q < xs.length) := Lib.hid fun q hq => List.mem_range.1 (mem_byOn.1 (by rw [HYs.out]; exact hq)).1
          have hle : ys.length ≤ xs.length := by rw [← HYs.out]; have := byOn_le (farB xs x) 1 (List.range xs.length); rwa [List.length_range] at this
          clear hat0 hsv hsrc hgv hB hG hb hc2 hsz1 hrow1
          go_wp2_with (first
            | (at_lookup; refine wpList_lookup_raw _ rfl _ _ 88 rfl 3 29 lawN Try.underlying88 (.slice none 0 0) (zeroIS _) B xs.length D rfl HOm.out _ _ rfl HKo.out (.slice av ys.length cv) HA0.out ?_)
            | go_in)
          go_loopw [11, 41] (fun pv v wr => ∃ k : Nat, v = .int .i64 k ∧ k ≤ ys.length ∧ wr.ownsRow (w.heap.size + 1) 3 1 pv (byK xs ((x.size : Int) + 1) (ys.take k)).length (ints (byK xs ((x.size : Int) + 1) (ys.take k))) ∧ wr.cell? ⟨w.heap.size, 0, none⟩ = some (.slice a xs.length c) ∧ Hid (Below w.heap.size w wr) ∧ Hid (SrcV wr av gv (ints ys)) ∧ Hid (0 < ys.length → pv.ownBlock ≠ some gv) ∧ Hid (w.heap.size + 1 ≤ wr.heap.size)) (fun _ v _ => ys.length - (intOf v).toNat)
          case atStart => exact ⟨0, rfl, Nat.zero_le _, HR3.out, hc3, HB3, HSr, HNe, HZ3⟩
          case round =>
            clear hc3
            obtain ⟨k, rfl, hk, hown, hc1, HBw, HSk, HNk, HZk⟩ := hrel
            obtain ⟨pv, capv, rfl⟩ := row_form hown
            have hszw := HZk.out
            by_cases hlt : k < ys.length
            · obtain rfl := HSk.out.1 (by rw [ints_len]; omega)
              have d1 := HSk.out.2 k _ (ints_at hlt)
              have HGl : Hid (gv < wr.heap.size) := Lib.hid (srcV_lt HSk.out (by rw [ints_len]; omega))
              have HNg := Lib.hid (HNk.out (by omega))
              have hyn := HMem.out ys[k] (List.getElem_mem hlt)
              have HTk := Lib.hid (take_snocN ys k hlt)
              generalize ys[k] = y at d1 hyn HTk
              obtain rfl := HS.out.src.1 (by omega)
              have hcY := (HS.out.below HBw.out).src.2 y _ (List.getElem?_eq_getElem hyn)
              have HY := Lib.hid (atB_eq (List.getElem?_eq_getElem hyn))
              have hz5 := H5.out _ (List.getElem_mem hyn)
              generalize xs[y] = z at hcY HY hz5
              have HSn := Lib.hid (byK_snoc xs ((x.size : Int) + 1) (ys.take k) y)
              rw [← HTk.out, HY.out] at HSn
              have hpl : (byK xs ((x.size : Int) + 1) (ys.take k)).length ≤ 10 := by have := byK_le xs ((x.size : Int) + 1) (ys.take k); have := List.length_take_le k ys; omega
              have HOw := Lib.hid hown
              generalize byK xs ((x.size : Int) + 1) (ys.take k) = ps at HOw HSn hpl HNg HNk
              clear hown
              have k1 : (0 : Int) ≤ (k : Int) := by omega
              have k2 : (k : Int) < (ys.length : Int) := by omega
              have y1 : (0 : Int) ≤ (y : Int) := by omega
              have y2 : (y : Int) < (xs.length : Int) := by omega
              by_cases hw : (z.size : Int) = ((x.size : Int) + 1)
              · have HE : Hid (byK xs ((x.size : Int) + 1) (ys.take (k + 1)) = ps ++ [y]) := Lib.hid (by rw [HSn.out, if_pos hw])
                have t1 : ((z.size : Int) == ((x.size : Int) + 1)) = true := by rw [hw]; simp
                have HLt3 : Hid (∀ q, (Value.slice pv ps.length capv).ownBlock = some q → w.heap.size + 1 ≤ q) := Lib.hid fun q e => (ownBlock_ge HOw.out e).1
                clear hw HSn
                go_wp2_with (first | (at_builtin; refine wpList_append_lies _ rfl _ _ 29 rfl (w.heap.size + 1) 3 i0 (.int .i64 0) 1 8 Try.underlying29 hi hz0 hz1 hz2 rfl (by decide) (.slice pv ps.length capv) ps.length (ints ps) rfl (HOw.out.alloc _) ⟨wr.heap.size, 0, none⟩ 1 1 [.int .i64 (y : Int)] rfl rfl (cell_one_new _ _ _) (by simp [Value.oneCell']) (by omega) (by unfold maxLen; omega) (by omega) (by simp; omega) (wr.heap.size + 1) (by simp) ?_; intro gg capg w4 hown4 hgrow4 hat4 hglt4) | go_in)
                have HW4 : Hid (w4.ownsRow (w.heap.size + 1) 3 1 (.slice (some ⟨gg, 0, none⟩) (ps.length + 1) capg) (byK xs ((x.size : Int) + 1) (ys.take (k + 1))).length (ints (byK xs ((x.size : Int) + 1) (ys.take (k + 1))))) := Lib.hid (by rw [HE.out, ints_snoc]; simpa using hown4)
                have hc4 : w4.cell? ⟨w.heap.size, 0, none⟩ = some (.slice (some ⟨b, o, none⟩) xs.length c) := (World.cell?_of_block (a := ⟨w.heap.size, 0, none⟩) (hgrow4.block w.heap.size (by simp; omega) (fun e => by have := HLt3.out _ e.symm; omega))).trans (keep_cell _ _ hc1)
                have HB4 : Hid (Below w.heap.size w w4) := Lib.hid ((HBw.out.alloc HBw.out.size _).grown hgrow4 (by have := HBw.out.size; simp; omega) (fun q e => by have := HLt3.out q e; omega))
                have HS4 : Hid (SrcV w4 (some ⟨gv, 0, none⟩) gv (ints ys)) := Lib.hid ⟨fun _ => rfl, fun j v hv => (World.cell?_of_block (a := ⟨gv, j, none⟩) (hgrow4.block gv (by have := HGl.out; simp; omega) (fun e => HNg.out e.symm))).trans ((HSk.out.alloc _).2 j v hv)⟩
                have HN4 : Hid (0 < ys.length → (Value.slice (some ⟨gg, 0, none⟩) (ps.length + 1) capg).ownBlock ≠ some gv) := Lib.hid fun _ e => by
                  have e2 : gg = gv := by simpa [Value.ownBlock] using e
                  rcases hat4 with h9 | h9
                  · exact HNg.out (by rw [h9, e2])
                  · have := HGl.out; omega
                have HZ4 : Hid (w.heap.size + 1 ≤ w4.heap.size) := Lib.hid (Nat.le_trans hszw (Nat.le_trans (by simp) hgrow4.size))
                clear hown4 hgrow4 hat4 hglt4 hc1
                go_wp2
                go_roundw
                case rel => exact ⟨k + 1, by go_num, by omega, HW4.out, hc4, HB4, HS4, HN4, HZ4⟩
                case measure => simp [intOf]; omega
              · have HE : Hid (byK xs ((x.size : Int) + 1) (ys.take (k + 1)) = ps) := Lib.hid (by rw [HSn.out, if_neg hw, List.append_nil])
                have t1 : ((z.size : Int) == ((x.size : Int) + 1)) = false := beq_false_of_ne hw
                have HW4 : Hid (wr.ownsRow (w.heap.size + 1) 3 1 (.slice pv ps.length capv) (byK xs ((x.size : Int) + 1) (ys.take (k + 1))).length (ints (byK xs ((x.size : Int) + 1) (ys.take (k + 1))))) := Lib.hid (by rw [HE.out]; exact HOw.out)
                clear hw HSn
                go_wp2
                go_roundw
                case rel => exact ⟨k + 1, by go_num, by omega, HW4.out, hc1, HBw, HSk, HNk, HZk⟩
                case measure => simp [intOf]; omega
            · obtain rfl : k = ys.length := by omega
              rw [List.take_length] at hown ⊢
              have HO3 := Lib.hid (row_mono hown (Nat.le_succ w.heap.size))
              clear hown
              go_wp2
              go_ret2
              have hfin := seqOut_row HO3.out (Nat.le_refl _) HBw.out
              exact hfin
        · have HR : Hid (lbOk xs i kind = false) := Lib.hid (by
            rw [HRk.out, Bool.eq_false_iff, ne_eq, Bool.and_eq_true, decide_eq_true_eq, decide_eq_true_eq]
            omega)
          have HL : Hid (lbL xs i kind = []) := Lib.hid (by rw [HLk.out, if_neg (by rw [HR.out]; simp)])
          rw [HR.out, HL.out]
          have t0 : (kind == 0) = false := beq_false_of_ne hk0
          have t1 : (kind == 1) = false := beq_false_of_ne hk1
          have t2 : (kind == 2) = false := beq_false_of_ne hk2
          clear HLk HRk hk0 hk1 hk2
          go_enter Try.func30, Try.ntmps30
          go_wp2_with fail
          refine (F.out _ (below_alloc _ _)).mono ?_
          rintro e w1 ⟨rfl, hb⟩
          have HB := Lib.hid ((below_alloc w (.cells #[.slice a xs.length c] 32)).trans (hb.mono (by simp)))
          clear hb
          go_wp2
          go_ret2
          exact seqOut_nothing HB.out _ _
end Go.Proofs.Ytgdiffdpjpkleaa
