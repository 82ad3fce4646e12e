/-
  ClosestPairs of the model, and both together. Used by the claims on chapter 6.
-/
import Derived.Test.YtgdiffdpjpkleaaCpB
import Derived.Deep.RegionHeld3
namespace Go.Proofs.Ytgdiffdpjpkleaa
open Go.RowKit Go.Maps
set_option linter.unusedVariables false

theorem cell_below {W W' : World} {p : Addr} {v : Value} (hb : Below W.heap.size W W') (h : W.cell? p = some v) : W'.cell? p = some v := (hb.cell (World.block_lt_of_cell? _ _ h)).trans h
theorem row_emptyP (w : World) (base : Nat) (hb : base ≤ w.heap.size) : (w.alloc (.cells #[] 79)).ownsRow base 79 2 (.slice (some ⟨w.heap.size, 0, none⟩) 0 0) 0 (prs []) :=
  World.ownsRow_made (base := base) (e := 79) (size := 2) w #[] 0 hb (by unfold maxLen; omega) rfl
theorem seqOut_row {W W' : World} {base : Nat} {e : TypeId} {size : Nat} {v : Value} {n : Nat} {vs : List Value} (h : W'.ownsRow base e size v n vs) (hw : W.heap.size ≤ base) (hb : Below W.heap.size W W') : SeqOut vs n true W (.returned (.tuple #[v, .bool true])) W' := by
  obtain ⟨a, g, c, rfl, hs, hg, hf⟩ := seq_of_row h
  exact ⟨a, g, c, rfl, hs, fun h => Nat.le_trans hw (hg h), hf, hb⟩
theorem seqOut_nothing {W W' : World} (hb : Below W.heap.size W W') (a : Option Addr) (c : Nat) : SeqOut [] 0 false W (.returned (.tuple #[.slice a 0 c, .bool false])) W' :=
  ⟨a, W.heap.size, c, rfl, ⟨fun h => by simp at h, fun j x hx => by simp at hx⟩, fun h => by simp at h, fun j hj => by simp at hj, hb⟩

set_option maxHeartbeats 8000000 in
set_option maxRecDepth 8000 in
theorem sClosestPairs_any (a : Option Addr) (b o c : Nat) (xs : List ByteArray) (w : World) (h : ListIn w a b o xs) :
    Calls Try.prog 33 #[.agg #[.slice a xs.length c]] w (SeqOut (prs (cpL xs)) (cpL xs).length (cpOk xs) w) := by
  have hl := h.len
  have F := Lib.hid fun W hb => stable_any a b o c xs W (h.below (w' := W) hb)
  have HS := Lib.hid h
  have e0 : (w.alloc (.cells #[.slice a xs.length c] 32)).heap.size = w.heap.size + 1 := by simp
  have HM0 : Hid (((w.alloc (.cells #[.slice a xs.length c] 32)).alloc (Obj.cells #[] 79)).ownsRow (w.heap.size + 1) 79 2 (.slice (some ⟨w.heap.size + 1, 0, none⟩) 0 0) 0 (prs [])) := Lib.hid (by
    have := row_emptyP (w.alloc (.cells #[.slice a xs.length c] 32)) (w.heap.size + 1) (by simp)
    rw [e0] at this
    exact this)
  have HB0 := Lib.hid ((below_alloc w (.cells #[.slice a xs.length c] 32)).alloc (by simp) (Obj.cells #[] 79))
  have hc0 := keep_cell (w.alloc (.cells #[.slice a xs.length c] 32)) (Obj.cells #[] 79) (cell_new w (.slice a xs.length c) 32)
  clear h e0
  by_cases ht : tableB xs = true
  · have F2 := Lib.hid fun W hb => val_eq (v' := .bool true) (F.out W hb) (by rw [ht])
    have E := Lib.hid fun W hb => sLeast_any a b o c xs W (HS.out.below (w' := W) hb) ht
    by_cases h2 : 2 ≤ xs.length
    · have hp := leastP_pos ht h2
      have hk : cpOk xs = true := cpOk_iff.2 ⟨ht, h2⟩
      have hlp : lpN xs = leastP xs := by unfold lpN; rw [if_pos h2]
      have hl2 : ¬ (xs.length : Int) < 2 := by omega
      have HL : Hid (cpL xs = byOn (farP xs) (leastP xs) (pairsQ xs.length xs.length 0)) := Lib.hid (if_pos hk)
      have H5 := Lib.hid (marks5 ht)
      have hn10 := (table_le ht).2
      rw [hlp] at E
      obtain ⟨i0, hi', hz0, hz1, hz2⟩ := info_parts infoPair
      rw [hk, HL.out]
      have hm5 := hp.2
      clear ht h2 hk F hp hlp HL
      generalize leastP xs = m at E hm5 ⊢
      go_enter Try.func33, Try.ntmps33
      go_wp2_with fail
      refine (F2.out _ HB0.out).mono ?_
      rintro e w1 ⟨rfl, hb⟩
      have hc1 := cell_below hb hc0
      have HM1 := Lib.hid (row_below HM0.out hb)
      have HB1 := Lib.hid (HB0.out.trans (hb.mono (by simp; omega)))
      have HZ1 : Hid (w.heap.size + 1 < w1.heap.size) := Lib.hid (Nat.lt_of_lt_of_le (by simp) hb.size)
      clear hb hc0
      go_wp2_with fail
      refine (E.out _ HB1.out).mono ?_
      rintro e w2 ⟨rfl, hb⟩
      have hc2 := cell_below hb hc1
      have HM2 := Lib.hid (row_below HM1.out hb)
      have HB2 := Lib.hid (HB1.out.trans (hb.mono HB1.out.size))
      have HZ2 : Hid (w.heap.size + 1 < w2.heap.size) := Lib.hid (Nat.lt_of_lt_of_le HZ1.out hb.size)
      clear hb hc1
      go_wp2
      go_loopw [4, 6] (fun pv v wr => ∃ i : Nat, v = .int .i64 i ∧ i ≤ xs.length ∧ wr.ownsRow (w.heap.size + 1) 79 2 pv (byOn (farP xs) m (pairsQ xs.length i 0)).length (prs (byOn (farP xs) m (pairsQ xs.length i 0))) ∧ wr.cell? ⟨w.heap.size, 0, none⟩ = some (.slice a xs.length c) ∧ Hid (Below w.heap.size w wr) ∧ Hid (w.heap.size + 1 < wr.heap.size)) (fun _ v _ => xs.length - (intOf v).toNat)
      case atStart => exact ⟨0, rfl, Nat.zero_le _, HM2.out, hc2, HB2, HZ2⟩
      case round =>
        clear hc2
        obtain ⟨i, rfl, hi, hown, hc1, HB, HZ⟩ := hrel
        by_cases hlt : i < xs.length
        · obtain rfl := HS.out.src.1 (by omega)
          have HXi := Lib.hid (atB_eq (List.getElem?_eq_getElem hlt))
          have hx5 := H5.out _ (List.getElem_mem hlt)
          have HCi := Lib.hid fun W (hb : Below w.heap.size w W) => (HS.out.below hb).src.2 i _ (List.getElem?_eq_getElem hlt)
          generalize xs[i] = xi at HCi HXi hx5
          have HOw : Hid (wr.ownsRow (w.heap.size + 1) 79 2 u4 (byOn (farP xs) m (pairsQ xs.length i (i + 1))).length (prs (byOn (farP xs) m (pairsQ xs.length i (i + 1))))) := Lib.hid (by rw [pairsQ_start]; exact hown)
          clear hown
          go_wp2
          go_loopw [4, 7] (fun pv v wr => ∃ k : Nat, v = .int .i64 k ∧ i < k ∧ k ≤ xs.length ∧ wr.ownsRow (w.heap.size + 1) 79 2 pv (byOn (farP xs) m (pairsQ xs.length i k)).length (prs (byOn (farP xs) m (pairsQ xs.length i k))) ∧ wr.cell? ⟨w.heap.size, 0, none⟩ = some (.slice (some ⟨b, o, none⟩) xs.length c) ∧ Hid (Below w.heap.size w wr) ∧ Hid (w.heap.size + 1 < wr.heap.size)) (fun _ v _ => xs.length - (intOf v).toNat)
          case atStart => exact ⟨i + 1, by go_num, by omega, by omega, HOw.out, hc1, HB, HZ⟩
          case round =>
            clear hc1 HB HZ
            obtain ⟨k, rfl, hik, hk, hown, hc1, HB, HZ⟩ := hrel
            obtain ⟨av, capv, rfl⟩ := row_form hown
            by_cases hkl : k < xs.length
            · have hcI := HCi.out _ HB.out
              have hcK := (HS.out.below HB.out).src.2 k _ (List.getElem?_eq_getElem hkl)
              have HXk := Lib.hid (atB_eq (List.getElem?_eq_getElem hkl))
              have hy5 := H5.out _ (List.getElem_mem hkl)
              generalize xs[k] = xk at hcK HXk hy5
              have HFd : Hid (farP xs (i, k) = dist (bl xi) (bl xk)) := Lib.hid (farP_at HXi.out HXk.out)
              have HDs := Lib.hid fun W => sDistance_any xi xk W hx5 hy5
              rw [← HFd.out] at HDs
              have HSn := Lib.hid (byOn_snoc (farP xs) m (pairsQ xs.length i k) (i, k))
              rw [← pairsQ_succ hik] at HSn
              have hle := byOn_le (farP xs) m (pairsQ xs.length i k)
              have hpl := pairsQ_le xs.length i k
              have h2 : i * xs.length ≤ 10 * 10 := Nat.mul_le_mul (by omega) (by omega)
              have hyl : (byOn (farP xs) m (pairsQ xs.length i k)).length ≤ 1000 := by omega
              have i1 : (0 : Int) ≤ (i : Int) := by omega
              have i2 : (i : Int) < (xs.length : Int) := by omega
              have k1 : (0 : Int) ≤ (k : Int) := by omega
              have k2 : (k : Int) < (xs.length : Int) := by omega
              have HOw2 := Lib.hid hown
              generalize byOn (farP xs) m (pairsQ xs.length i k) = ys at HOw2 HSn hyl hown
              clear hle hpl h2 hown
              have HLt : Hid (∀ q, (Value.slice av ys.length capv).ownBlock = some q → w.heap.size + 1 ≤ q ∧ q < wr.heap.size) := Lib.hid HOw2.out.lt
              have hfm : farP xs (i, k) ≤ 1000 := by rw [HFd.out]; have := dist_le (bl xi) (bl xk); rw [bl_len, bl_len] at this; omega
              generalize farP xs (i, k) = d0 at HDs HSn hfm
              clear HFd
              have hszr := HZ.out
              obtain ⟨W0, hW0⟩ : ∃ W0 : World, W0 = wr := ⟨_, rfl⟩
              by_cases hdm : d0 = m
              · have HP2 : Hid (byOn (farP xs) m (pairsQ xs.length i (k + 1)) = ys ++ [(i, k)]) := Lib.hid (by rw [HSn.out, if_pos hdm])
                have t1 : ((d0 : Int) == (m : Int)) = true := by rw [hdm]; simp
                clear hdm
                go_wp2
                go_region_held3 (fun w' => w'.cell? ⟨w.heap.size, 0, none⟩ = some (.slice (some ⟨b, o, none⟩) xs.length c) ∧ w'.cell? ⟨b, o + i, none⟩ = some (.string xi) ∧ w'.cell? ⟨b, o + k, none⟩ = some (.string xk))
                  (first
                    | go_keep
                    | (go_split_ands
                       refine ⟨cell_below hb2 (by assumption), cell_below hb2 (by assumption), cell_below hb2 (by assumption)⟩))
                  ((go_at_call 76; refine (HDs.out _).mono ?_; rintro e w2 ⟨rfl, hb2⟩))
                have hc2 : w2.cell? ⟨w.heap.size, 0, none⟩ = some (.slice (some ⟨b, o, none⟩) xs.length c) := (hb2.cell (p := ⟨w.heap.size, 0, none⟩) (by show w.heap.size < wr.heap.size; omega)).trans hc1
                have HB2 := Lib.hid (HB.out.drew.trans (hb2.mono HB.out.size))
                have hsz2 : w.heap.size + 1 < w2.heap.size := Nat.lt_of_lt_of_le hszr hb2.size
                have HO2 := Lib.hid (row_below (w := wr.drew) (w' := w2) HOw2.out hb2)
                have HLt2 : Hid (∀ q, (Value.slice av ys.length capv).ownBlock = some q → w.heap.size + 1 ≤ q ∧ q < w2.heap.size) := Lib.hid fun q e => ⟨(HLt.out q e).1, Nat.lt_of_lt_of_le (HLt.out q e).2 hb2.size⟩
                clear hb2 hc1
                go_wp2_with (first | (at_builtin; refine wpList_append_lies _ rfl _ _ 44 rfl (w.heap.size + 1) 79 i0 (.agg #[.int .i64 0, .int .i64 0]) 2 16 Try.underlying44 hi' hz0 hz1 hz2 rfl (by decide) (.slice av ys.length capv) ys.length (prs ys) rfl (HO2.out.alloc _) ⟨w2.heap.size, 0, none⟩ 1 1 [.int .i64 (i : Int), .int .i64 (k : Int)] rfl rfl (cell_two_new _ _ _ _) (by simp [Value.oneCell']) (by omega) (by unfold maxLen; omega) (by omega) (by simp; omega) (w2.heap.size + 1) (by simp) ?_; intro gg capg w3 hown3 hgrow3 hat3 hglt3) | go_in)
                have HW3 : Hid (w3.ownsRow (w.heap.size + 1) 79 2 (.slice (some ⟨gg, 0, none⟩) (ys.length + 1) capg) (byOn (farP xs) m (pairsQ xs.length i (k + 1))).length (prs (byOn (farP xs) m (pairsQ xs.length i (k + 1))))) := Lib.hid (by rw [HP2.out, prs_snoc]; simpa using hown3)
                have hc3 : w3.cell? ⟨w.heap.size, 0, none⟩ = some (.slice (some ⟨b, o, none⟩) xs.length c) := (World.cell?_of_block (a := ⟨w.heap.size, 0, none⟩) (hgrow3.block w.heap.size (by simp; omega) (fun e => by have := (HLt2.out _ e.symm).1; omega))).trans (keep_cell _ _ hc2)
                have HB3 : Hid (Below w.heap.size w w3) := Lib.hid ((HB2.out.alloc HB2.out.size _).grown hgrow3 (by have := HB2.out.size; simp; omega) (fun q e => by have := (HLt2.out q e).1; omega))
                have HZ3 : Hid (w.heap.size + 1 < w3.heap.size) := Lib.hid (Nat.lt_of_lt_of_le hsz2 (Nat.le_trans (by simp) hgrow3.size))
                clear hown3 hgrow3 hat3 hglt3 hc2
                go_wp2
                go_roundw
                case rel => exact ⟨k + 1, by go_num, by omega, by omega, HW3.out, hc3, HB3, HZ3⟩
                case measure => simp [intOf]; omega
              · have HP2 : Hid (byOn (farP xs) m (pairsQ xs.length i (k + 1)) = ys) := Lib.hid (by rw [HSn.out, if_neg hdm, List.append_nil])
                have t1 : ((d0 : Int) == (m : Int)) = false := beq_false_of_ne (by omega)
                clear hdm
                go_wp2
                go_region_held3 (fun w' => w'.cell? ⟨w.heap.size, 0, none⟩ = some (.slice (some ⟨b, o, none⟩) xs.length c) ∧ w'.cell? ⟨b, o + i, none⟩ = some (.string xi) ∧ w'.cell? ⟨b, o + k, none⟩ = some (.string xk))
                  (first
                    | go_keep
                    | (go_split_ands
                       refine ⟨cell_below hb2 (by assumption), cell_below hb2 (by assumption), cell_below hb2 (by assumption)⟩))
                  ((go_at_call 76; refine (HDs.out _).mono ?_; rintro e w2 ⟨rfl, hb2⟩))
                have hc2 : w2.cell? ⟨w.heap.size, 0, none⟩ = some (.slice (some ⟨b, o, none⟩) xs.length c) := (hb2.cell (p := ⟨w.heap.size, 0, none⟩) (by show w.heap.size < wr.heap.size; omega)).trans hc1
                have HB2 := Lib.hid (HB.out.drew.trans (hb2.mono HB.out.size))
                have hsz2 : w.heap.size + 1 < w2.heap.size := Nat.lt_of_lt_of_le hszr hb2.size
                have HO2 := Lib.hid (row_below (w := wr.drew) (w' := w2) HOw2.out hb2)
                have HLt2 : Hid (∀ q, (Value.slice av ys.length capv).ownBlock = some q → w.heap.size + 1 ≤ q ∧ q < w2.heap.size) := Lib.hid fun q e => ⟨(HLt.out q e).1, Nat.lt_of_lt_of_le (HLt.out q e).2 hb2.size⟩
                clear hb2 hc1
                have HW3 : Hid (w2.ownsRow (w.heap.size + 1) 79 2 (.slice av ys.length capv) (byOn (farP xs) m (pairsQ xs.length i (k + 1))).length (prs (byOn (farP xs) m (pairsQ xs.length i (k + 1))))) := Lib.hid (by rw [HP2.out]; exact HO2.out)
                have HZ3 := Lib.hid hsz2
                go_wp2
                go_roundw
                case rel => exact ⟨k + 1, by go_num, by omega, by omega, HW3.out, hc2, HB2, HZ3⟩
                case measure => simp [intOf]; omega
            · obtain rfl : k = xs.length := by omega
              have HO3 : Hid (wr.ownsRow (w.heap.size + 1) 79 2 (.slice av (byOn (farP xs) m (pairsQ xs.length i xs.length)).length capv) (byOn (farP xs) m (pairsQ xs.length (i + 1) 0)).length (prs (byOn (farP xs) m (pairsQ xs.length (i + 1) 0)))) := Lib.hid (by rw [← pairsQ_row]; exact hown)
              go_wp2
              go_roundw
              case rel => exact ⟨i + 1, by go_num, by omega, HO3.out, hc1, HB, HZ⟩
              case measure => simp [intOf]; omega
        · obtain rfl : i = xs.length := by omega
          have HO3 := Lib.hid (row_mono hown (Nat.le_succ w.heap.size))
          clear hown
          go_wp2
          go_ret2
          exact seqOut_row HO3.out (Nat.le_refl _) HB.out
    · have hk : cpOk xs = false := by rw [Bool.eq_false_iff]; exact fun e => h2 (cpOk_iff.1 e).2
      have HL : Hid (cpL xs = []) := Lib.hid (if_neg (by rw [hk]; simp))
      have hl2 : (xs.length : Int) < 2 := by omega
      rw [hk, HL.out]
      clear ht h2 hk F E
      go_enter Try.func33, Try.ntmps33
      go_wp2_with fail
      refine (F2.out _ HB0.out).mono ?_
      rintro e w1 ⟨rfl, hb⟩
      have hc1 := cell_below hb hc0
      have HB1 := Lib.hid (HB0.out.trans (hb.mono (by simp; omega)))
      clear hb hc0
      go_wp2
      go_ret2
      exact seqOut_nothing HB1.out _ _
  · have F2 := Lib.hid fun W hb => val_eq (v' := .bool false) (F.out W hb) (by simp [ht])
    have hk : cpOk xs = false := by rw [Bool.eq_false_iff]; exact fun e => ht (cpOk_iff.1 e).1
    have HL : Hid (cpL xs = []) := Lib.hid (if_neg (by rw [hk]; simp))
    rw [hk, HL.out]
    clear ht hk F
    go_enter Try.func33, Try.ntmps33
    go_wp2_with fail
    refine (F2.out _ HB0.out).mono ?_
    rintro e w1 ⟨rfl, hb⟩
    have HB1 := Lib.hid (HB0.out.trans (hb.mono (by simp; omega)))
    clear hb hc0
    go_wp2
    go_ret2
    exact seqOut_nothing HB1.out _ _
theorem closestPairs_both (xs : List ByteArray) (hl : xs.length ≤ 1048576) (ht : ∀ x ∈ xs, x.size ≤ 1048576) : ∃ (l : List (Nat × Nat)) (R1 : Bool), l.length ≤ 1000 ∧
    Hid (∀ W a b o c, ListIn W a b o xs → Calls Try.prog 33 #[.agg #[.slice a xs.length c]] W (SeqOut (prs l) l.length R1 W)) ∧
    Hid (∀ W a b o c, ListIn W a b o xs → Calls Try.prog 34 #[.agg #[.slice a xs.length c]] W (SeqOut (prs l) l.length R1 W)) :=
  ⟨_, _, Nat.le_trans (cpL_le xs) (by omega), fun W a b o c h => sClosestPairs_any a b o c xs W h, fun W a b o c h => closestPairs_any a b o c xs W h⟩
end Go.Proofs.Ytgdiffdpjpkleaa
