/-
  SafeSubset of the model, and both together. Used by the claims on chapter 6.
-/
import Derived.Test.YtgdiffdpjpkleaaSafeB
namespace Go.Proofs.Ytgdiffdpjpkleaa
open Go.RowKit Go.Maps
set_option linter.unusedVariables false

theorem any_take (f : Nat → Bool) (ys : List Nat) (j : Nat) (h : j < ys.length) : (ys.take (j + 1)).any f = ((ys.take j).any f || f ys[j]) := by
  rw [List.take_add_one, List.getElem?_eq_getElem h, List.any_append]; simp

set_option maxHeartbeats 8000000 in
set_option maxRecDepth 8000 in
theorem sSafeSubset_any (a : Option Addr) (b o c : Nat) (xs : List ByteArray) (w : World) (h : ListIn w a b o xs) :
    Calls Try.prog 54 #[.agg #[.slice a xs.length c]] w (SeqOut (ints (safeL xs)) (safeL xs).length (tableB xs) w) := by
  have hl := h.len
  have F := Lib.hid fun W hb => stable_any a b o c xs W (h.below (w' := W) hb)
  have HS := Lib.hid h
  have e0 : (w.alloc (.cells #[.slice a xs.length c] 32)).heap.size = w.heap.size + 1 := by simp
  have HM0 : Hid (((w.alloc (.cells #[.slice a xs.length c] 32)).alloc (Obj.cells #[] 3)).ownsRow (w.heap.size + 1) 3 1 (.slice (some ⟨w.heap.size + 1, 0, none⟩) 0 0) 0 (ints [])) := Lib.hid (by
    have := row_empty (w.alloc (.cells #[.slice a xs.length c] 32)) (w.heap.size + 1) (by simp)
    rw [e0] at this
    exact this)
  have HB0 := Lib.hid ((below_alloc w (.cells #[.slice a xs.length c] 32)).alloc (by simp) (Obj.cells #[] 3))
  have hc0 := keep_cell (w.alloc (.cells #[.slice a xs.length c] 32)) (Obj.cells #[] 3) (cell_new w (.slice a xs.length c) 32)
  clear h e0
  by_cases ht : tableB xs = true
  · have F2 := Lib.hid fun W hb => val_eq (v' := .bool true) (F.out W hb) (by rw [ht])
    have H5 := Lib.hid (marks5 ht)
    have hn10 := (table_le ht).2
    obtain ⟨i0, hi, hz0, hz1, hz2⟩ := info_parts infoI
    have HL : Hid (safeL xs = safeTo xs xs.length) := Lib.hid (if_pos ht)
    rw [ht, HL.out]
    clear ht F HL
    go_enter Try.func54, Try.ntmps54
    go_wp2_with fail
    refine (F2.out _ HB0.out).mono ?_
    rintro e w1 ⟨rfl, hb⟩
    have hc1 := cell_below hb hc0
    have HM1 := Lib.hid (row_below HM0.out hb)
    have HB1 := Lib.hid (HB0.out.trans (hb.mono (by simp; omega)))
    have HZ1 : Hid (w.heap.size + 1 ≤ w1.heap.size) := Lib.hid (Nat.le_trans (by simp) hb.size)
    clear hb hc0
    go_wp2
    go_loopw [4, 5] (fun pv v wr => ∃ k : Nat, v = .int .i64 k ∧ k ≤ xs.length ∧ wr.ownsRow (w.heap.size + 1) 3 1 pv (safeTo xs k).length (ints (safeTo xs k)) ∧ wr.cell? ⟨w.heap.size, 0, none⟩ = some (.slice a xs.length c) ∧ Hid (Below w.heap.size w wr) ∧ Hid (w.heap.size + 1 ≤ wr.heap.size)) (fun _ v _ => xs.length - (intOf v).toNat)
    case atStart => exact ⟨0, rfl, Nat.zero_le _, HM1.out, hc1, HB1, HZ1⟩
    case round =>
      clear hc1
      obtain ⟨k, rfl, hk, hown, hc1, HB, HZ⟩ := hrel
      by_cases hlt : k < xs.length
      · obtain ⟨av, gv, capv, hpv, hsv, hgv, hfv⟩ := seq_of_row hown
        subst hpv
        obtain rfl := HS.out.src.1 (by omega)
        have HCx := Lib.hid fun W (hb : Below w.heap.size w W) => (HS.out.below hb).src.2 k _ (List.getElem?_eq_getElem hlt)
        have HX := Lib.hid (atB_eq (List.getElem?_eq_getElem hlt))
        have hx5 := H5.out _ (List.getElem_mem hlt)
        generalize xs[k] = x at HCx HX hx5
        have hle := safeTo_le xs k
        have HMem := Lib.hid (safeTo_mem xs k)
        have HSt : Hid (safeTo xs (k + 1) = if (safeTo xs k).any (closeB xs k) = true then safeTo xs k else safeTo xs k ++ [k]) := Lib.hid rfl
        have HOw := Lib.hid hown
        have HSv := Lib.hid hsv
        clear hown hgv hfv hsv
        generalize safeTo xs k = ys at hle HMem HSt HOw HSv
        have k1 : (0 : Int) ≤ (k : Int) := by omega
        have k2 : (k : Int) < (xs.length : Int) := by omega
        obtain ⟨W0, hW0⟩ : ∃ W0 : World, W0 = wr := ⟨_, rfl⟩
        rw [← hW0] at hc1 HB HZ HOw HSv ⊢
        clear hW0
        have HSv0 := Lib.hid fun W (hb : Below W0.heap.size W0 W) => HSv.out.below hb
        have HRf : Hid (Below W0.heap.size W0 W0) := Lib.hid (Below.refl _ _)
        go_wp2
        go_loopw [6, 7] (fun u v wr => ∃ (j : Nat) (fr : Bool), v = .int .i64 j ∧ j ≤ ys.length ∧ u = .bool fr ∧ Hid ((ys.take j).any (closeB xs k) = !fr) ∧ wr.cell? ⟨w.heap.size, 0, none⟩ = some (.slice (some ⟨b, o, none⟩) xs.length c) ∧ Hid (Below W0.heap.size W0 wr)) (fun _ v _ => ys.length - (intOf v).toNat)
        case atStart => exact ⟨0, true, rfl, Nat.zero_le _, rfl, Lib.hid rfl, hc1, HRf⟩
        case round =>
          obtain ⟨j, fr, rfl, hj, rfl, HFr, hc2, HB2⟩ := hrel
          have HBw : Hid (Below w.heap.size w wr) := Lib.hid (HB.out.trans (HB2.out.mono HB.out.size))
          have hszw := Nat.le_trans HZ.out HB2.out.size
          clear hc1
          by_cases hlj : j < ys.length
          · obtain rfl := HSv.out.1 (by rw [ints_len]; omega)
            have d1 := (HSv0.out wr HB2.out).2 j _ (ints_at hlj)
            have HAn := Lib.hid (any_take (closeB xs k) ys j hlj)
            have hyk := HMem.out ys[j] (List.getElem_mem hlj)
            generalize ys[j] = y at d1 HAn hyk
            have hcX := HCx.out _ HBw.out
            have hyn : y < xs.length := by omega
            have hcY := (HS.out.below HBw.out).src.2 y _ (List.getElem?_eq_getElem hyn)
            have HY := Lib.hid (atB_eq (List.getElem?_eq_getElem hyn))
            have hy5 := H5.out _ (List.getElem_mem hyn)
            generalize xs[y] = z at hcY HY hy5
            have HDs := Lib.hid fun W => sDistance_any x z W hx5 hy5
            have HFd : Hid (farP xs (k, y) = dist (bl x) (bl z)) := Lib.hid (farP_at HX.out HY.out)
            rw [← HFd.out] at HDs
            have HCl : Hid (closeB xs k y = decide (farP xs (k, y) < 2)) := Lib.hid rfl
            generalize farP xs (k, y) = d at HDs HCl
            clear HFd
            have j1 : (0 : Int) ≤ (j : Int) := by omega
            have j2 : (j : Int) < (ys.length : Int) := by omega
            have y1 : (0 : Int) ≤ (y : Int) := by omega
            have y2 : (y : Int) < (xs.length : Int) := by omega
            rw [HFr.out] at HAn
            clear HFr
            cases fr with
            | false =>
              have HE : Hid ((ys.take (j + 1)).any (closeB xs k) = !false) := Lib.hid (by rw [HAn.out]; rfl)
              clear HAn
              go_wp2
              go_quiet (fail)
              have hc3 : (wr.drewN nq).cell? ⟨w.heap.size, 0, none⟩ = some (.slice (some ⟨b, o, none⟩) xs.length c) := hc2
              have HB3 : Hid (Below W0.heap.size W0 (wr.drewN nq)) := Lib.hid (below_drewN' HB2.out)
              go_wp2
              go_roundw
              case rel => exact ⟨j + 1, _, by go_num, by omega, rfl, HE, hc3, HB3⟩
              case measure => simp [intOf]; omega
            | true =>
              by_cases hd : d < 2
              · have HE : Hid ((ys.take (j + 1)).any (closeB xs k) = !false) := Lib.hid (by rw [HAn.out, HCl.out, decide_eq_true hd]; rfl)
                have t1 : decide ((1 : Int) < (d : Int)) = false := decide_eq_false (by omega)
                have t2 : ¬ (1 : Int) < (d : Int) := by omega
                clear hd HAn HCl
                go_wp2
                go_region_held3 (fun w' => w'.cell? ⟨w.heap.size, 0, none⟩ = some (.slice (some ⟨b, o, none⟩) xs.length c) ∧ w'.cell? ⟨b, o + k, none⟩ = some (.string x) ∧ w'.cell? ⟨gv, j, none⟩ = some (.int .i64 (y : Int)) ∧ w'.cell? ⟨b, o + y, none⟩ = some (.string z))
                  (first
                    | go_keep
                    | (go_split_ands
                       refine ⟨cell_below hb2 (by assumption), cell_below hb2 (by assumption), cell_below hb2 (by assumption), cell_below hb2 (by assumption)⟩))
                  ((go_at_call 76; refine (HDs.out _).mono ?_; rintro e w2 ⟨rfl, hb2⟩))
                have hc3 : w2.cell? ⟨w.heap.size, 0, none⟩ = some (.slice (some ⟨b, o, none⟩) xs.length c) := (hb2.cell (p := ⟨w.heap.size, 0, none⟩) (by show w.heap.size < wr.heap.size; omega)).trans hc2
                have HB3 : Hid (Below W0.heap.size W0 w2) := Lib.hid (HB2.out.drew.trans (hb2.mono HB2.out.size))
                clear hb2
                go_wp2
                go_roundw
                case rel => exact ⟨j + 1, _, by go_num, by omega, rfl, HE, hc3, HB3⟩
                case measure => simp [intOf]; omega
              · have HE : Hid ((ys.take (j + 1)).any (closeB xs k) = !true) := Lib.hid (by rw [HAn.out, HCl.out, decide_eq_false hd]; rfl)
                have t1 : decide ((1 : Int) < (d : Int)) = true := decide_eq_true (by omega)
                have t2 : (1 : Int) < (d : Int) := by omega
                clear hd HAn HCl
                go_wp2
                go_region_held3 (fun w' => w'.cell? ⟨w.heap.size, 0, none⟩ = some (.slice (some ⟨b, o, none⟩) xs.length c) ∧ w'.cell? ⟨b, o + k, none⟩ = some (.string x) ∧ w'.cell? ⟨gv, j, none⟩ = some (.int .i64 (y : Int)) ∧ w'.cell? ⟨b, o + y, none⟩ = some (.string z))
                  (first
                    | go_keep
                    | (go_split_ands
                       refine ⟨cell_below hb2 (by assumption), cell_below hb2 (by assumption), cell_below hb2 (by assumption), cell_below hb2 (by assumption)⟩))
                  ((go_at_call 76; refine (HDs.out _).mono ?_; rintro e w2 ⟨rfl, hb2⟩))
                have hc3 : w2.cell? ⟨w.heap.size, 0, none⟩ = some (.slice (some ⟨b, o, none⟩) xs.length c) := (hb2.cell (p := ⟨w.heap.size, 0, none⟩) (by show w.heap.size < wr.heap.size; omega)).trans hc2
                have HB3 : Hid (Below W0.heap.size W0 w2) := Lib.hid (HB2.out.drew.trans (hb2.mono HB2.out.size))
                clear hb2
                go_wp2
                go_roundw
                case rel => exact ⟨j + 1, _, by go_num, by omega, rfl, HE, hc3, HB3⟩
                case measure => simp [intOf]; omega
          · obtain rfl : j = ys.length := by omega
            have HO3 := Lib.hid (row_below HOw.out HB2.out)
            have hq := HFr.out
            rw [List.take_length] at hq
            clear HFr
            cases fr with
            | false =>
              have HE : Hid (safeTo xs (k + 1) = ys) := Lib.hid (by rw [HSt.out, if_pos (by rw [hq]; rfl)])
              have HO4 : Hid (wr.ownsRow (w.heap.size + 1) 3 1 (.slice av ys.length capv) (safeTo xs (k + 1)).length (ints (safeTo xs (k + 1)))) := Lib.hid (by rw [HE.out]; exact HO3.out)
              have HZ3 := Lib.hid hszw
              clear hq HSt
              go_wp2
              go_roundw
              case rel => exact ⟨k + 1, by go_num, by omega, HO4.out, hc2, HBw, HZ3⟩
              case measure => simp [intOf]; omega
            | true =>
              have HE : Hid (safeTo xs (k + 1) = ys ++ [k]) := Lib.hid (by rw [HSt.out, if_neg (by rw [hq]; simp)])
              clear hq HSt
              have HLt3 : Hid (∀ q, (Value.slice av ys.length capv).ownBlock = some q → w.heap.size + 1 ≤ q) := Lib.hid fun q e => (ownBlock_ge HO3.out e).1
              go_wp2_with (first | (at_builtin; refine wpList_append_lies _ rfl _ _ 29 rfl (w.heap.size + 1) 3 i0 (.int .i64 0) 1 8 Try.underlying29 hi hz0 hz1 hz2 rfl (by decide) (.slice av ys.length capv) ys.length (ints ys) rfl (HO3.out.alloc _) ⟨wr.heap.size, 0, none⟩ 1 1 [.int .i64 (k : Int)] rfl rfl (cell_one_new _ _ _) (by simp [Value.oneCell']) (by omega) (by unfold maxLen; omega) (by omega) (by simp; omega) (wr.heap.size + 1) (by simp) ?_; intro gg capg w4 hown4 hgrow4 hat4 hglt4) | go_in)
              have HW4 : Hid (w4.ownsRow (w.heap.size + 1) 3 1 (.slice (some ⟨gg, 0, none⟩) (ys.length + 1) capg) (safeTo xs (k + 1)).length (ints (safeTo xs (k + 1)))) := Lib.hid (by rw [HE.out, ints_snoc]; simpa using hown4)
              have hc4 : w4.cell? ⟨w.heap.size, 0, none⟩ = some (.slice (some ⟨b, o, none⟩) xs.length c) := (World.cell?_of_block (a := ⟨w.heap.size, 0, none⟩) (hgrow4.block w.heap.size (by simp; omega) (fun e => by have := HLt3.out _ e.symm; omega))).trans (keep_cell _ _ hc2)
              have HB4 : Hid (Below w.heap.size w w4) := Lib.hid ((HBw.out.alloc HBw.out.size _).grown hgrow4 (by have := HBw.out.size; simp; omega) (fun q e => by have := HLt3.out q e; omega))
              have HZ4 : Hid (w.heap.size + 1 ≤ w4.heap.size) := Lib.hid (Nat.le_trans hszw (Nat.le_trans (by simp) hgrow4.size))
              clear hown4 hgrow4 hat4 hglt4 hc2
              go_wp2
              go_roundw
              case rel => exact ⟨k + 1, by go_num, by omega, HW4.out, hc4, HB4, HZ4⟩
              case measure => simp [intOf]; omega
      · obtain rfl : k = xs.length := by omega
        have HO3 := Lib.hid (row_mono hown (Nat.le_succ w.heap.size))
        clear hown
        go_wp2
        go_ret2
        exact seqOut_row HO3.out (Nat.le_refl _) HB.out
  · have F2 := Lib.hid fun W hb => val_eq (v' := .bool false) (F.out W hb) (by simp [ht])
    have HL : Hid (safeL xs = []) := Lib.hid (if_neg ht)
    have ht' : tableB xs = false := by simpa using ht
    rw [ht', HL.out]
    clear ht ht' F HL
    go_enter Try.func54, Try.ntmps54
    go_wp2_with fail
    refine (F2.out _ HB0.out).mono ?_
    rintro e w1 ⟨rfl, hb⟩
    have HB := Lib.hid (HB0.out.trans (hb.mono (by simp; omega)))
    clear hb hc0
    go_wp2
    go_ret2
    exact seqOut_nothing HB.out _ _
theorem safeSubset_both (xs : List ByteArray) (hl : xs.length ≤ 1048576) (ht : ∀ x ∈ xs, x.size ≤ 1048576) : ∃ (l : List Nat) (R1 : Bool), l.length ≤ 1048576 ∧
    Hid (∀ W a b o c, ListIn W a b o xs → Calls Try.prog 54 #[.agg #[.slice a xs.length c]] W (SeqOut (ints l) l.length R1 W)) ∧
    Hid (∀ W a b o c, ListIn W a b o xs → Calls Try.prog 55 #[.agg #[.slice a xs.length c]] W (SeqOut (ints l) l.length R1 W)) :=
  ⟨_, _, Nat.le_trans (safeL_le xs) hl, fun W a b o c h => sSafeSubset_any a b o c xs W h, fun W a b o c h => safeSubset_any a b o c xs W h⟩
end Go.Proofs.Ytgdiffdpjpkleaa
