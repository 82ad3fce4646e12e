/-
  closestPairs of the program: all pairs of letters by their distance, and those with the least one. Used by the claims on chapter 6.
-/
import Derived.Test.YtgdiffdpjpkleaaNrB
namespace Go.Proofs.Ytgdiffdpjpkleaa
open Go.RowKit Go.Maps
set_option linter.unusedVariables false

def cpOk (xs : List ByteArray) : Bool := tableB xs && decide (2 ≤ xs.length)
def leastP (xs : List ByteArray) : Nat := minOn (farP xs) (allQ xs.length)
def cpL (xs : List ByteArray) : List (Nat × Nat) := if cpOk xs = true then nearOn (farP xs) (allQ xs.length) else []
def cpZ (xs : List ByteArray) : Int := if cpOk xs = true then (leastP xs : Int) else 0
theorem allQ_le {n : Nat} (h : n ≤ 10) : (allQ n).length ≤ 100 := by
  have h1 := pairsQ_le n n 0
  have h2 : n * n ≤ 10 * 10 := Nat.mul_le_mul h h
  unfold allQ
  omega
theorem cpOk_iff {xs : List ByteArray} : cpOk xs = true ↔ tableB xs = true ∧ 2 ≤ xs.length := by
  unfold cpOk
  rw [Bool.and_eq_true, decide_eq_true_eq]
theorem cpL_le (xs : List ByteArray) : (cpL xs).length ≤ 100 := by
  unfold cpL
  by_cases h : cpOk xs = true
  · rw [if_pos h]
    exact Nat.le_trans (nearOn_le _ _) (allQ_le (table_le (cpOk_iff.1 h).1).2)
  · rw [if_neg h]; simp
theorem farP_le {xs : List ByteArray} (h5 : ∀ x ∈ xs, x.size ≤ 5) {p : Nat × Nat} (hp : p ∈ allQ xs.length) : farP xs p ≤ 5 := by
  have h := mem_allQ.1 hp
  exact farB_le h5 (h5 _ (atB_mem (by omega))) h.2
theorem farP_at {xs : List ByteArray} {i j : Nat} {x y : ByteArray} (hx : atB xs i = x) (hy : atB xs j = y) : farP xs (i, j) = dist (bl x) (bl y) := by
  unfold farP farB
  rw [hx, hy]

set_option maxHeartbeats 2000000 in
set_option maxRecDepth 8000 in
theorem leastOfP_none {α : Type} (w : World) (B base : Nat) (e : TypeId) (size : Nat) (cells : List α → List Value) (F : Nat → List α) (n : Nat) (D : DataW Value) (sv : Nat → Value) (hG : Groups w B base e size cells F n D sv) (hlow : ∀ d, F d = []) :
    Calls Try.prog 122 #[.map (some B)] w fun e w' => e = .returned (.tuple #[.slice none 0 0, .int .i64 0, .bool false]) ∧ w' = w := by
  have HG := Lib.hid hG
  have HLo := Lib.hid hlow
  clear hG hlow
  go_enter Try.func122, Try.ntmps122
  go_wp2
  go_loopw [8] (fun v wr => ∃ k : Nat, v = .int .i64 k ∧ k ≤ 6 ∧ wr = w) (fun v _ => 6 - (intOf v).toNat)
  case atStart => exact ⟨0, rfl, Nat.zero_le _, rfl⟩
  case round =>
    obtain ⟨k, rfl, hk, hwr⟩ := hrel
    subst hwr
    have HK := Lib.hid (keyN_of (d := k) (by omega))
    have HA := Lib.hid (HG.out.at_ k)
    have HH := Lib.hid (HG.out.has_ k)
    by_cases hlt : k < 6
    · have HF : Hid (Maps.has D (keyN k) = false) := Lib.hid (by rw [HH.out, HLo.out k]; rfl)
      go_wp2_with (first
        | (at_lookup; refine wpList_lookup_raw_ok _ rfl _ _ 125 rfl 3 44 lawN Try.underlying125 (.slice none 0 0) (zeroPS _) B n D rfl HG.out.own _ _ rfl HK.out (sv k) HA.out false HF.out ?_)
        | go_in)
      go_roundw
      case rel => exact ⟨k + 1, by go_num, by omega, by trivial⟩
      case measure => simp [intOf]; omega
    · obtain rfl : k = 6 := by omega
      go_wp2
      go_ret3
      exact ⟨rfl, rfl⟩

/-- What the loops leave: all pairs by their distance. -/
structure CpS (xs : List ByteArray) (a : Option Addr) (c : Nat) (w : World) (B i k : Nat) (D : DataW Value) (sv : Nat → Value) (wr : World) : Prop where
  gr : Groups wr B (B + 1) 79 2 prs (fun d => byOn (farP xs) d (pairsQ xs.length i k)) (pairsQ xs.length i k).length D sv
  box : wr.cell? ⟨w.heap.size, 0, none⟩ = some (.slice a xs.length c)
  below : Below w.heap.size w wr
  lt : w.heap.size < B
  sz : B + 1 ≤ wr.heap.size
theorem CpS.step {xs : List ByteArray} {a : Option Addr} {c : Nat} {w : World} {B i k : Nat} {D : DataW Value} {sv : Nat → Value} {wr wr' : World} (h : CpS xs a c w B i k D sv wr) (hb : Below wr.heap.size wr wr') : CpS xs a c w B i k D sv wr' :=
  ⟨h.gr.kept hb, (hb.cell (p := ⟨w.heap.size, 0, none⟩) (by have := h.lt; have := h.sz; show w.heap.size < _; omega)).trans h.box, h.below.trans (hb.mono h.below.size), h.lt, Nat.le_trans h.sz hb.size⟩

set_option maxHeartbeats 8000000 in
set_option maxRecDepth 8000 in
theorem closest_any (a : Option Addr) (b o c : Nat) (xs : List ByteArray) (w : World) (h : ListIn w a b o xs) :
    Calls Try.prog 92 #[.agg #[.slice a xs.length c]] w (SeqOut3 (prs (cpL xs)) (cpL xs).length (cpZ xs) (cpOk xs) w) := by
  have hl := h.len
  have F := Lib.hid fun W hb => isTable_any a b o c xs W (h.below (w' := W) hb)
  have HS := Lib.hid h
  clear h
  by_cases ht : tableB xs = true
  · have F2 := Lib.hid fun W hb => val_eq (v' := .bool true) (F.out W hb) (by rw [ht])
    have H5 := Lib.hid (marks5 ht)
    have hn1 := (table_le ht).1
    have hn10 := (table_le ht).2
    obtain ⟨i0, hi', hz0, hz1, hz2⟩ := info_parts infoPair
    have hmm := @run_makeMap Try.prog
    have HRs : Hid (cpOk xs = decide (2 ≤ xs.length)) := Lib.hid (by unfold cpOk; rw [ht, Bool.true_and])
    clear ht F
    go_enter Try.func92, Try.ntmps92
    go_wp2_with fail
    refine (F2.out _ (below_alloc _ _)).mono ?_
    rintro e w1 ⟨rfl, hb⟩
    have HC0 : Hid (CpS xs a c w w1.heap.size 0 0 (.map []) (fun _ => nilS) (w1.alloc (.map #[] 0))) := Lib.hid
      ⟨groups_made w1 79 2 prs rfl, keep_cell w1 _ ((hb.cell (p := ⟨w.heap.size, 0, none⟩) (by simp)).trans (cell_new _ _ _)), ((below_alloc w (.cells #[.slice a xs.length c] 32)).trans (hb.mono (by simp))).alloc (by have := hb.size; simp at this; omega) _, by have := hb.size; simp at this; omega, by simp⟩
    have hc1 : w1.cell? ⟨w.heap.size, 0, none⟩ = some (.slice a xs.length c) := (hb.cell (p := ⟨w.heap.size, 0, none⟩) (by simp)).trans (cell_new _ _ _)
    have hc1' := keep_cell w1 (.map #[] 0) hc1
    clear hb
    go_wp2
    go_loopw [17] (fun v wr => ∃ (i : Nat) (D : DataW Value) (sv : Nat → Value), v = .int .i64 i ∧ i ≤ xs.length ∧ Hid (CpS xs a c w w1.heap.size i 0 D sv wr)) (fun v _ => xs.length - (intOf v).toNat)
    case atStart => exact ⟨0, .map [], fun _ => nilS, rfl, Nat.zero_le _, HC0⟩
    case round =>
      obtain ⟨i, D, sv, rfl, hi, HC⟩ := hrel
      by_cases hlt : i < xs.length
      · obtain rfl := HS.out.src.1 (by omega)
        have hcI := (HS.out.below HC.out.below).src.2 i _ (List.getElem?_eq_getElem hlt)
        have HXi := Lib.hid (atB_eq (List.getElem?_eq_getElem hlt))
        have hx5 := H5.out _ (List.getElem_mem hlt)
        generalize xs[i] = xi at hcI HXi hx5
        have hbox := HC.out.box
        have HC1 : Hid (CpS xs (some ⟨b, o, none⟩) c w w1.heap.size i (i + 1) D sv wr) := Lib.hid (by
          have h := HC.out
          exact ⟨by rw [pairsQ_start]; exact h.gr, h.box, h.below, h.lt, h.sz⟩)
        go_wp2
        go_loopw [8] (fun v wr2 => ∃ (k : Nat) (D : DataW Value) (sv : Nat → Value), v = .int .i64 k ∧ i < k ∧ k ≤ xs.length ∧ wr2.cell? ⟨w.heap.size, 0, none⟩ = some (.slice (some ⟨b, o, none⟩) xs.length c) ∧ Hid (CpS xs (some ⟨b, o, none⟩) c w w1.heap.size i k D sv wr2)) (fun v _ => xs.length - (intOf v).toNat)
        case atStart => exact ⟨i + 1, D, sv, by go_num, by omega, by omega, hbox, HC1⟩
        case round =>
          clear hbox HC HC1 hc1 hc1' hcI
          obtain ⟨k, D, sv, rfl, hik, hk, hbox, HC⟩ := hrel
          by_cases hkl : k < xs.length
          · have hcK := (HS.out.below HC.out.below).src.2 k _ (List.getElem?_eq_getElem hkl)
            have HXk := Lib.hid (atB_eq (List.getElem?_eq_getElem hkl))
            have hy5 := H5.out _ (List.getElem_mem hkl)
            generalize xs[k] = xk at hcK HXk hy5
            have k1 : (0 : Int) ≤ (k : Int) := by omega
            have k2 : (k : Int) < (xs.length : Int) := by omega
            have HFd : Hid (farP xs (i, k) = dist (bl xi) (bl xk)) := Lib.hid (farP_at HXi.out HXk.out)
            have hd5 : farP xs (i, k) ≤ 5 := by rw [HFd.out]; have := dist_le (bl xi) (bl xk); rw [bl_len, bl_len] at this; omega
            have HDs := Lib.hid fun W => distanceOf_any xi xk W hx5 hy5
            rw [← HFd.out] at HDs
            have HPs := Lib.hid (pairsQ_succ (n := xs.length) hik)
            have hpl : (pairsQ xs.length i k).length ≤ 1000 := by
              have := pairsQ_le xs.length i k
              have h2 : i * xs.length ≤ 10 * 10 := Nat.mul_le_mul (by omega) (by omega)
              omega
            have HL : Hid (∀ d, (byOn (farP xs) d (pairsQ xs.length i k)).length ≤ 1000) := Lib.hid fun d => Nat.le_trans (byOn_le _ _ _) hpl
            have HNx : Hid (∀ d, byOn (farP xs) d (pairsQ xs.length i (k + 1)) = if d = farP xs (i, k) then byOn (farP xs) d (pairsQ xs.length i k) ++ [(i, k)] else byOn (farP xs) d (pairsQ xs.length i k)) := Lib.hid fun d => by
              rw [HPs.out]
              by_cases e : d = farP xs (i, k)
              · rw [if_pos e, byOn_snoc_same e.symm]
              · rw [if_neg e, byOn_snoc_other (Ne.symm e)]
            have HPl : Hid ((pairsQ xs.length i (k + 1)).length = (pairsQ xs.length i k).length + 1) := Lib.hid (by rw [HPs.out]; simp)
            generalize farP xs (i, k) = d0 at HDs hd5 HNx
            clear HFd HPs
            go_wp2_with fail
            refine (HDs.out _).mono ?_
            rintro e w2 ⟨rfl, hb2⟩
            have HC2 := Lib.hid (HC.out.step hb2)
            have hbox2 := HC2.out.box
            have hsz2 := HC2.out.sz
            clear hb2 hcK hbox
            obtain ⟨av, cv, hsv⟩ := HC2.out.gr.form d0
            have hat0 := HC2.out.gr.at_ d0
            have hrow0 := HC2.out.gr.row d0
            rw [hsv] at hat0 hrow0
            have hl0 := HL.out d0
            obtain ⟨ys, hys⟩ : ∃ ys, byOn (farP xs) d0 (pairsQ xs.length i k) = ys := ⟨_, rfl⟩
            obtain ⟨np, hnp⟩ : ∃ np, np = (pairsQ xs.length i k).length := ⟨_, rfl⟩
            rw [hys] at hat0 hrow0 hl0 hsv
            rw [← hnp] at hpl
            have HNp := Lib.hid hnp
            have HYS := Lib.hid hys
            have HSV := Lib.hid hsv
            have HKo := Lib.hid (keyN_of (d := d0) (by omega))
            have HOwn : Hid (w2.ownsMap Try.prog 3 rawE w1.heap.size np D) := Lib.hid (by rw [HNp.out]; exact HC2.out.gr.own)
            clear hys hsv hnp
            have HA0 := Lib.hid hat0
            have HR0 := Lib.hid hrow0
            clear hat0 hrow0
            go_wp2_with (first
              | (at_lookup; refine wpList_lookup_raw _ rfl _ _ 125 rfl 3 44 lawN Try.underlying125 (.slice none 0 0) (zeroPS _) w1.heap.size np D rfl HOwn.out _ _ rfl HKo.out (.slice av ys.length cv) HA0.out ?_)
              | (at_builtin; refine wpList_append_lies _ rfl _ _ 44 rfl (w1.heap.size + 1) 79 i0 (.agg #[.int .i64 0, .int .i64 0]) 2 16 Try.underlying44 hi' hz0 hz1 hz2 rfl (by decide) (.slice av ys.length cv) ys.length (prs ys) rfl (HR0.out.alloc _) ⟨w2.heap.size, 0, none⟩ 1 1 [.int .i64 (i : Int), .int .i64 (k : Int)] rfl rfl (cell_two_new _ _ _ _) (by simp [Value.oneCell']) (by omega) (by unfold maxLen; omega) (by omega) (by simp; omega) (w2.heap.size + 1) (by simp) ?_; intro gg capg w3 hown3 hgrow3 hat3 hglt3
                 have HM3 : Hid (w3.ownsMap Try.prog 3 rawE w1.heap.size np D) := Lib.hid (by rw [HNp.out]; exact HC2.out.gr.map_mid d0 (.cells #[.int .i64 (i : Int), .int .i64 (k : Int)] 79) (by rw [HSV.out]; exact hgrow3)))
              | (at_mapUpdate; refine wpList_mapUpdate_own _ rfl _ _ _ 125 rfl 3 44 lawN Try.underlying125 _ w1.heap.size np _ rfl HM3.out (by unfold maxLen; omega) _ _ _ rfl rfl HKo.out _ [] (rfl : rawE _ = _) ?_; intro w4 hown4 hgrow4)
              | go_in)
            have HG4 : Hid (Groups w4 w1.heap.size (w1.heap.size + 1) 79 2 prs (fun d => byOn (farP xs) d (pairsQ xs.length i (k + 1))) (pairsQ xs.length i (k + 1)).length (D.put (keyN d0) (.held (.slice (some ⟨gg, 0, none⟩) (ys.length + 1) capg))) (fun d => if d = d0 then .slice (some ⟨gg, 0, none⟩) (ys.length + 1) capg else sv d)) := Lib.hid (by
              rw [HPl.out]
              exact HC2.out.gr.step d0 (i, k) (.cells #[.int .i64 (i : Int), .int .i64 (k : Int)] 79) (.slice (some ⟨gg, 0, none⟩) (ys.length + 1) capg) (by rw [HSV.out]; exact hgrow3) (by rw [HYS.out, prs_snoc]; simpa using hown3)
                (by rw [HSV.out]; rcases hat3 with h | h
                    · exact .inl h
                    · exact .inr (by rw [h]; rfl)) (by rw [← HNp.out]; exact hown4) hgrow4 _ (by rw [HNx.out, if_pos rfl]) (fun d hd => by rw [HNx.out, if_neg hd]))
            have HB3 : Hid (Below w.heap.size w w3) := Lib.hid ((HC2.out.below.alloc HC2.out.below.size _).grown hgrow3 (by have := HC2.out.below.size; simp; omega) (fun q e => by have := (ownBlock_ge HR0.out e).1; have := HC2.out.lt; omega))
            have HB4 : Hid (Below w.heap.size w w4) := Lib.hid (HB3.out.grown hgrow4 HB3.out.size (fun q e => by injection e; have := HC2.out.lt; omega))
            have HBx : Hid (w4.cell? ⟨w.heap.size, 0, none⟩ = some (.slice (some ⟨b, o, none⟩) xs.length c)) := Lib.hid (by
              have h0 := keep_cell w2 (.cells #[.int .i64 (i : Int), .int .i64 (k : Int)] 79) hbox2
              have h1 := World.block_lt_of_cell? _ _ h0
              have hlt0 := HC2.out.lt
              refine (World.cell?_of_block (w := w3) (a := ⟨w.heap.size, 0, none⟩) (hgrow4.block w.heap.size (Nat.lt_of_lt_of_le h1 hgrow3.size) (fun e => by injection e; omega))).trans ?_
              exact (World.cell?_of_block (a := ⟨w.heap.size, 0, none⟩) (hgrow3.block w.heap.size h1 (fun e => by have := (ownBlock_ge HR0.out e.symm).1; omega))).trans h0)
            have HC4 : Hid (CpS xs (some ⟨b, o, none⟩) c w w1.heap.size i (k + 1) _ _ w4) := Lib.hid ⟨HG4.out, HBx.out, HB4.out, HC2.out.lt, Nat.le_trans hsz2 (Nat.le_trans (by simp) (Nat.le_trans hgrow3.size hgrow4.size))⟩
            have hbox4 := HBx.out
            clear hown3 hgrow3 hat3 hglt3 hown4 hgrow4 hbox2
            go_wp2
            go_roundw
            case rel => exact ⟨k + 1, _, _, by go_num, by omega, by omega, hbox4, HC4⟩
            case measure => simp [intOf]; omega
          · obtain rfl : k = xs.length := by omega
            have HC5 : Hid (CpS xs (some ⟨b, o, none⟩) c w w1.heap.size (i + 1) 0 D sv wr) := Lib.hid (by
              have h := HC.out
              exact ⟨by rw [← pairsQ_row]; exact h.gr, h.box, h.below, h.lt, h.sz⟩)
            go_wp2
            go_roundw
            case rel => exact ⟨i + 1, D, sv, by go_num, by omega, HC5⟩
            case measure => simp [intOf]; omega
      · obtain rfl : i = xs.length := by omega
        by_cases hn2 : 2 ≤ xs.length
        · have H5a : ∀ p ∈ allQ xs.length, farP xs p ≤ 5 := fun p hp => farP_le H5.out hp
          have HMn := Lib.hid (minOn_le5 (allQ_ne hn2) H5a)
          have HNe := Lib.hid (byOn_min (allQ_ne hn2) H5a)
          have HLo := Lib.hid (fun W hW => leastOfP_any W w1.heap.size (w1.heap.size + 1) 79 2 prs (fun d => byOn (farP xs) d (pairsQ xs.length xs.length 0)) (pairsQ xs.length xs.length 0).length D sv (leastP xs) (HC.out.gr.kept (w' := W) hW) HMn.out HNe.out (fun d hd => byOn_below hd))
          have HGr := Lib.hid (HC.out.gr.row (leastP xs))
          have HR : Hid (cpOk xs = true) := Lib.hid (by rw [HRs.out]; exact decide_eq_true hn2)
          have HL : Hid (cpL xs = nearOn (farP xs) (allQ xs.length)) := Lib.hid (if_pos HR.out)
          have HZ : Hid (cpZ xs = (leastP xs : Int)) := Lib.hid (if_pos HR.out)
          have HBl : Hid (w.heap.size ≤ w1.heap.size + 1) := Lib.hid (by have := HC.out.lt; omega)
          clear H5a hn2
          go_wp2_with fail
          refine (HLo.out _ (Below.refl _ _)).mono ?_
          rintro e w4 ⟨rfl, hww⟩
          obtain rfl := hww.symm
          go_wp2
          go_ret3
          rw [HR.out, HL.out, HZ.out]
          exact seqOut3_row HGr.out HBl.out HC.out.below
        · have HLo := Lib.hid (fun W hW => leastOfP_none W w1.heap.size (w1.heap.size + 1) 79 2 prs (fun d => byOn (farP xs) d (pairsQ xs.length xs.length 0)) (pairsQ xs.length xs.length 0).length D sv (HC.out.gr.kept (w' := W) hW) (fun d => by
            have : pairsQ xs.length xs.length 0 = [] := allQ_nil (by omega)
            rw [this]; rfl))
          have HR : Hid (cpOk xs = false) := Lib.hid (by rw [HRs.out]; exact decide_eq_false hn2)
          have HL : Hid (cpL xs = []) := Lib.hid (if_neg (by rw [HR.out]; simp))
          have HZ : Hid (cpZ xs = 0) := Lib.hid (if_neg (by rw [HR.out]; simp))
          clear hn2
          go_wp2_with fail
          refine (HLo.out _ (Below.refl _ _)).mono ?_
          rintro e w4 ⟨rfl, hww⟩
          obtain rfl := hww.symm
          go_wp2
          go_ret3
          rw [HR.out, HL.out, HZ.out]
          exact seqOut3_none HC.out.below _ _
  · have F2 := Lib.hid fun W hb => val_eq (v' := .bool false) (F.out W hb) (by simp [ht])
    have HR : Hid (cpOk xs = false) := Lib.hid (by unfold cpOk; simp [ht])
    have HL : Hid (cpL xs = []) := Lib.hid (if_neg (by rw [HR.out]; simp))
    have HZ : Hid (cpZ xs = 0) := Lib.hid (if_neg (by rw [HR.out]; simp))
    rw [HR.out, HL.out, HZ.out]
    clear ht F
    go_enter Try.func92, Try.ntmps92
    go_wp2_with fail
    refine (F2.out _ (below_alloc _ _)).mono ?_
    rintro e w1 ⟨rfl, hb⟩
    have HB := Lib.hid ((below_alloc w (.cells #[.slice a xs.length c] 32)).trans (hb.mono (by simp)))
    clear hb
    go_wp2
    go_ret3
    exact seqOut3_none HB.out _ _
end Go.Proofs.Ytgdiffdpjpkleaa
