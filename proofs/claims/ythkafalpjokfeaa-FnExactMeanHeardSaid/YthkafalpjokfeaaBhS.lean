/-
  l11Behind of the model; LettersBehind of the program and of the model. Used by the claims on chapter 11.
-/
import Derived.Test.YthkafalpjokfeaaBhW
import Derived.Test.YthkafalpjokfeaaNonW
import Derived.Test.YthkafalpjokfeaaIsTableB
namespace Go.Proofs.Ythkafalpjokfeaa
open Go.RowKit
set_option linter.unusedVariables false

set_option maxHeartbeats 8000000 in
set_option maxRecDepth 8000 in
theorem sBeh_any (a : Option Addr) (b o c : Nat) (xs : List ByteArray) (s : ByteArray) (w : World) (h : ListIn w a b o xs) (hn : xs.length ≤ 10) (hs : s.size ≤ 1048576) :
    Calls Try.prog 71 #[.agg #[.slice a xs.length c], .string s] w (LetsOut (behL xs s xs.length) w) := by
  have HS := Lib.hid h
  obtain ⟨i0, hi, hz0, hz1, hz2⟩ := infoL_parts infoIL
  have HTx := Lib.hid h.texts
  clear h
  have e0 : (w.alloc (.cells #[.slice a xs.length c] 29)).heap.size = w.heap.size + 1 := by simp
  have M0 : Hid (((w.alloc (.cells #[.slice a xs.length c] 29)).alloc (Obj.cells #[] 3)).ownsRow (w.heap.size + 1) 3 1 (.slice (some ⟨w.heap.size + 1, 0, none⟩) 0 0) 0 (ints [])) := Lib.hid (by
    have := row_emptyB (w.alloc (.cells #[.slice a xs.length c] 29)) (w.heap.size + 1) (by simp)
    rw [e0] at this
    exact this)
  have hB1 := Lib.hid ((below_alloc w (.cells #[.slice a xs.length c] 29)).alloc (by simp) (Obj.cells #[] 3))
  have hc0 := keep_cell (w.alloc (.cells #[.slice a xs.length c] 29)) (Obj.cells #[] 3) (cell_new w (.slice a xs.length c) 29)
  have hsz0 : Hid (w.heap.size + 1 ≤ ((w.alloc (.cells #[.slice a xs.length c] 29)).alloc (Obj.cells #[] 3)).heap.size) := Lib.hid (by simp)
  clear e0
  go_enter Try.func71, Try.ntmps71
  go_wp2
  go_loopw [5, 6] (fun pv v wr => ∃ k : Nat, v = .int .i64 k ∧ k ≤ xs.length ∧ wr.ownsRow (w.heap.size + 1) 3 1 pv (behL xs s k).length (ints (behL xs s k)) ∧ wr.cell? ⟨w.heap.size, 0, none⟩ = some (.slice a xs.length c) ∧ Hid (Below w.heap.size w wr) ∧ Hid (w.heap.size + 1 ≤ wr.heap.size)) (fun _ v _ => xs.length - (intOf v).toNat)
  case atStart => exact ⟨0, rfl, Nat.zero_le _, M0.out, hc0, hB1, hsz0⟩
  case round =>
    clear hc0
    obtain ⟨k, rfl, hk, hown, hc, HB, HZ⟩ := hrel
    obtain ⟨av, capv, rfl⟩ := row_form hown
    by_cases hlt : k < xs.length
    · obtain rfl := HS.out.src.1 (by omega)
      have hcell := (HS.out.below HB.out).src.2 k _ (List.getElem?_eq_getElem hlt)
      have HX := Lib.hid (atL_eq (List.getElem?_eq_getElem hlt))
      have hxz := HTx.out _ (List.getElem_mem hlt)
      generalize xs[k] = x at hcell HX hxz
      have HSn := Lib.hid (behL_succ xs s k)
      rw [HX.out] at HSn
      have hpl := behL_le xs s k
      have HOw := Lib.hid hown
      generalize behL xs s k = ps at HOw HSn hpl
      clear hown
      have k1 : (0 : Int) ≤ (k : Int) := by omega
      have k2 : (k : Int) < (xs.length : Int) := by omega
      have hszr := HZ.out
      by_cases hsx : s.size ≤ x.size
      · have h1 : (s.size : Int) ≤ (x.size : Int) := by omega
        have HT := Lib.hid (begB_take x s hsx)
        cases hq : begB x s with
        | true =>
          have heq : ((x.extract 0 s.size).toList == s.toList) = true := by
            rw [← hq, HT.out, ByteArray.toList_eq, ByteArray.toList_eq]; rfl
          have HE : Hid (behL xs s (k + 1) = ps ++ [k]) := Lib.hid (by rw [HSn.out, if_pos hq])
          have HLt : Hid (∀ q, (Value.slice av ps.length capv).ownBlock = some q → w.heap.size + 1 ≤ q) := Lib.hid fun q e => (ownBlock_geB HOw.out e).1
          clear HSn HT hq
          go_wp2_with (first | (at_builtin; refine wpList_append_lies _ rfl _ _ 25 rfl (w.heap.size + 1) 3 i0 (.int .i64 0) 1 8 Try.underlying25 hi hz0 hz1 hz2 rfl (by decide) (.slice av ps.length capv) ps.length (ints ps) rfl (HOw.out.alloc _) ⟨wr.heap.size, 0, none⟩ 1 1 [.int .i64 (k : Int)] rfl rfl (cell_one_newB _ _ _) (by simp [Value.oneCell']) (by omega) (by unfold maxLen; omega) (by omega) (by simp; omega) (wr.heap.size + 1) (by simp) ?_; intro gg capg w4 hown4 hgrow4 hat4 hglt4) | go_in)
          have HW4 : Hid (w4.ownsRow (w.heap.size + 1) 3 1 (.slice (some ⟨gg, 0, none⟩) (ps.length + 1) capg) (behL xs s (k + 1)).length (ints (behL xs s (k + 1)))) := Lib.hid (by rw [HE.out, ints_snoc]; simpa using hown4)
          have HB4 : Hid (Below w.heap.size w w4) := Lib.hid ((HB.out.alloc HB.out.size _).grown hgrow4 (by have := HB.out.size; simp; omega) (fun q e => by have := HLt.out q e; omega))
          have hc4 : w4.cell? ⟨w.heap.size, 0, none⟩ = some (.slice (some ⟨b, o, none⟩) xs.length c) := (World.cell?_of_block (a := ⟨w.heap.size, 0, none⟩) (hgrow4.block w.heap.size (by simp; omega) (fun e => by have := HLt.out _ e.symm; omega))).trans (keep_cell _ _ hc)
          have HZ4 : Hid (w.heap.size + 1 ≤ w4.heap.size) := Lib.hid (Nat.le_trans hszr (Nat.le_trans (by simp) hgrow4.size))
          clear hown4 hgrow4 hat4 hglt4 hc
          go_wp2
          go_roundw
          case rel => exact ⟨k + 1, by go_num, by omega, HW4.out, hc4, HB4, HZ4⟩
          case measure => simp [intOf]; omega
        | false =>
          have heq : ((x.extract 0 s.size).toList == s.toList) = false := by
            rw [← hq, HT.out, ByteArray.toList_eq, ByteArray.toList_eq]; rfl
          have HE : Hid (behL xs s (k + 1) = ps) := Lib.hid (by rw [HSn.out, hq]; simp)
          have HW4 : Hid (wr.ownsRow (w.heap.size + 1) 3 1 (.slice av ps.length capv) (behL xs s (k + 1)).length (ints (behL xs s (k + 1)))) := Lib.hid (by rw [HE.out]; exact HOw.out)
          clear HSn HT hq
          go_wp2
          go_roundw
          case rel => exact ⟨k + 1, by go_num, by omega, HW4.out, hc, HB, HZ⟩
          case measure => simp [intOf]; omega
      · have h1 : ¬ (s.size : Int) ≤ (x.size : Int) := by omega
        have HE : Hid (behL xs s (k + 1) = ps) := Lib.hid (by rw [HSn.out, begB_far hsx]; simp)
        have HW4 : Hid (wr.ownsRow (w.heap.size + 1) 3 1 (.slice av ps.length capv) (behL xs s (k + 1)).length (ints (behL xs s (k + 1)))) := Lib.hid (by rw [HE.out]; exact HOw.out)
        clear HSn
        go_wp2
        go_roundw
        case rel => exact ⟨k + 1, by go_num, by omega, HW4.out, hc, HB, HZ⟩
        case measure => simp [intOf]; omega
    · obtain rfl : k = xs.length := by omega
      have HO3 := Lib.hid (row_monoB hown (Nat.le_succ w.heap.size))
      clear hown
      go_wp2
      go_ret
      exact ⟨av, capv, rfl, HO3.out, HB.out⟩

/-! ### LettersBehind -/
def lbhOk (xs : List ByteArray) (s : ByteArray) : Bool := tableB xs && noneT s
def lbhL (xs : List ByteArray) (s : ByteArray) : List Nat := if lbhOk xs s = true then behL xs s xs.length else []
theorem lbh_le (xs : List ByteArray) (s : ByteArray) : (lbhL xs s).length ≤ xs.length := by
  unfold lbhL
  split
  · exact behL_le _ _ _
  · simp
theorem letsOut_row {l : List Nat} {w W W' : World} {e : Ending} (h : LetsOut l W e W') (hB : Below w.heap.size w W) : ∃ a c, e = .returned (.slice a l.length c) ∧ SeqOut (ints l) l.length true w (.returned (.tuple #[.slice a l.length c, .bool true])) W' := by
  obtain ⟨a, c, rfl, hr, hb⟩ := h
  exact ⟨a, c, rfl, seqOut_rowB hr hB.size (hB.trans (hb.mono hB.size))⟩
set_option maxHeartbeats 2000000 in
theorem lettersBehind_any (a : Option Addr) (b o c : Nat) (xs : List ByteArray) (s : ByteArray) (w : World) (h : ListIn w a b o xs) (hs : s.size ≤ 1048576) :
    Calls Try.prog 25 #[.agg #[.slice a xs.length c], .string s] w (SeqOut (ints (lbhL xs s)) (lbhL xs s).length (lbhOk xs s) w) := by
  have F := Lib.hid fun W hb => isTable_any a b o c xs W (h.below (w' := W) hb)
  have G := Lib.hid fun W => none_any s W (by unfold maxLen; omega)
  have K := Lib.hid fun (hn : xs.length ≤ 10) W hb => beh_any a b o c xs s W (h.below (w' := W) hb) hn hs
  clear h
  have HK := Lib.hid (cell_new w (.slice a xs.length c) 29)
  cases ht : tableB xs with
  | false =>
    have HR : Hid (lbhOk xs s = false) := Lib.hid (by unfold lbhOk; rw [ht]; rfl)
    have HL : Hid (lbhL xs s = []) := Lib.hid (if_neg (by rw [HR.out]; simp))
    rw [HR.out, HL.out]
    rw [ht] at F
    clear K HR HL ht
    go_enter Try.func25, Try.ntmps25
    go_wp2_with fail
    refine (F.out _ (below_alloc _ _)).mono ?_
    rintro e w1 ⟨rfl, hb⟩
    have HB := Lib.hid ((below_alloc w (.cells #[.slice a xs.length c] 29)).trans (hb.mono (by simp)))
    clear hb
    go_wp2
    go_ret2
    exact seqOut_nothingB HB.out _ _
  | true =>
    have K2 := Lib.hid (K.out ((tableB_iff xs).1 ht).1.2)
    rw [ht] at F
    cases hq : noneT s with
    | false =>
      have HR : Hid (lbhOk xs s = false) := Lib.hid (by unfold lbhOk; rw [ht, hq]; rfl)
      have HL : Hid (lbhL xs s = []) := Lib.hid (if_neg (by rw [HR.out]; simp))
      rw [HR.out, HL.out]
      rw [hq] at G
      clear K K2 HR HL ht hq
      go_enter Try.func25, Try.ntmps25
      go_wp2_with fail
      refine (F.out _ (below_alloc _ _)).mono ?_
      rintro e w1 ⟨rfl, hb⟩
      have HB := Lib.hid ((below_alloc w (.cells #[.slice a xs.length c] 29)).trans (hb.mono (by simp)))
      clear hb
      go_wp2_with fail
      refine (G.out _).mono ?_
      rintro e w2 ⟨rfl, hb⟩
      have HB2 := Lib.hid (HB.out.trans (hb.mono HB.out.size))
      clear hb
      go_wp2
      go_ret2
      exact seqOut_nothingB HB2.out _ _
    | true =>
      have HR : Hid (lbhOk xs s = true) := Lib.hid (by unfold lbhOk; rw [ht, hq]; rfl)
      have HL : Hid (lbhL xs s = behL xs s xs.length) := Lib.hid (if_pos HR.out)
      rw [HR.out, HL.out]
      rw [hq] at G
      clear K HR HL ht hq
      generalize behL xs s xs.length = m at K2 ⊢
      go_enter Try.func25, Try.ntmps25
      go_wp2_with fail
      refine (F.out _ (below_alloc _ _)).mono ?_
      rintro e w1 ⟨rfl, hb⟩
      have HB := Lib.hid ((below_alloc w (.cells #[.slice a xs.length c] 29)).trans (hb.mono (by simp)))
      have hc1 := (hb.cell (p := ⟨w.heap.size, 0, none⟩) (by simp)).trans HK.out
      clear hb
      go_wp2_with fail
      refine (G.out _).mono ?_
      rintro e w2 ⟨rfl, hb⟩
      have HB2 := Lib.hid (HB.out.trans (hb.mono HB.out.size))
      have hc2 := cell_belowB hb hc1
      clear hb
      go_wp2_with fail
      refine (K2.out _ HB2.out).mono ?_
      intro e w3 hO
      obtain ⟨a3, c3, rfl, hfin⟩ := letsOut_row hO HB2.out
      have HF := Lib.hid hfin
      clear hO hfin
      go_wp2
      go_ret2
      exact HF.out
set_option maxHeartbeats 2000000 in
theorem sLettersBehind_any (a : Option Addr) (b o c : Nat) (xs : List ByteArray) (s : ByteArray) (w : World) (h : ListIn w a b o xs) (hs : s.size ≤ 1048576) :
    Calls Try.prog 24 #[.agg #[.slice a xs.length c], .string s] w (SeqOut (ints (lbhL xs s)) (lbhL xs s).length (lbhOk xs s) w) := by
  have F := Lib.hid fun W hb => stable_any a b o c xs W (h.below (w' := W) hb)
  have G := Lib.hid fun W => snone_any s W (by unfold maxLen; omega)
  have K := Lib.hid fun (hn : xs.length ≤ 10) W hb => sBeh_any a b o c xs s W (h.below (w' := W) hb) hn hs
  clear h
  have HK := Lib.hid (cell_new w (.slice a xs.length c) 29)
  cases ht : tableB xs with
  | false =>
    have HR : Hid (lbhOk xs s = false) := Lib.hid (by unfold lbhOk; rw [ht]; rfl)
    have HL : Hid (lbhL xs s = []) := Lib.hid (if_neg (by rw [HR.out]; simp))
    rw [HR.out, HL.out]
    rw [ht] at F
    clear K HR HL ht
    go_enter Try.func24, Try.ntmps24
    go_wp2_with fail
    refine (F.out _ (below_alloc _ _)).mono ?_
    rintro e w1 ⟨rfl, hb⟩
    have HB := Lib.hid ((below_alloc w (.cells #[.slice a xs.length c] 29)).trans (hb.mono (by simp)))
    clear hb
    go_wp2
    go_ret2
    exact seqOut_nothingB (HB.out.alloc HB.out.size _) _ _
  | true =>
    have K2 := Lib.hid (K.out ((tableB_iff xs).1 ht).1.2)
    rw [ht] at F
    cases hq : noneT s with
    | false =>
      have HR : Hid (lbhOk xs s = false) := Lib.hid (by unfold lbhOk; rw [ht, hq]; rfl)
      have HL : Hid (lbhL xs s = []) := Lib.hid (if_neg (by rw [HR.out]; simp))
      rw [HR.out, HL.out]
      rw [hq] at G
      clear K K2 HR HL ht hq
      go_enter Try.func24, Try.ntmps24
      go_wp2_with fail
      refine (F.out _ (below_alloc _ _)).mono ?_
      rintro e w1 ⟨rfl, hb⟩
      have HB := Lib.hid ((below_alloc w (.cells #[.slice a xs.length c] 29)).trans (hb.mono (by simp)))
      clear hb
      go_wp2_with fail
      refine (G.out _).mono ?_
      rintro e w2 ⟨rfl, q, rfl⟩
      go_wp2
      go_ret2
      exact seqOut_nothingB ((below_drewN' HB.out).alloc HB.out.size _) _ _
    | true =>
      have HR : Hid (lbhOk xs s = true) := Lib.hid (by unfold lbhOk; rw [ht, hq]; rfl)
      have HL : Hid (lbhL xs s = behL xs s xs.length) := Lib.hid (if_pos HR.out)
      rw [HR.out, HL.out]
      rw [hq] at G
      clear K HR HL ht hq
      generalize behL xs s xs.length = m at K2 ⊢
      go_enter Try.func24, Try.ntmps24
      go_wp2_with fail
      refine (F.out _ (below_alloc _ _)).mono ?_
      rintro e w1 ⟨rfl, hb⟩
      have HB := Lib.hid ((below_alloc w (.cells #[.slice a xs.length c] 29)).trans (hb.mono (by simp)))
      have hc1 := (hb.cell (p := ⟨w.heap.size, 0, none⟩) (by simp)).trans HK.out
      clear hb
      go_wp2_with fail
      refine (G.out _).mono ?_
      rintro e w2 ⟨rfl, q, rfl⟩
      have HB2 := Lib.hid (below_drewN' (q := q) HB.out)
      go_wp2_with fail
      refine (K2.out _ HB2.out).mono ?_
      intro e w3 hO
      obtain ⟨a3, c3, rfl, hfin⟩ := letsOut_row hO HB2.out
      have HF := Lib.hid hfin
      clear hO hfin
      go_wp2
      go_ret2
      exact HF.out
theorem lettersBehind_both (xs : List ByteArray) (s : ByteArray) (hl : xs.length ≤ 1048576) (ht : ∀ x ∈ xs, x.size ≤ 1048576) (hs : s.size ≤ 1048576) : ∃ (l : List Nat) (R1 : Bool), l.length ≤ 1048576 ∧
    Hid (∀ W a b o c, ListIn W a b o xs → Calls Try.prog 24 #[.agg #[.slice a xs.length c], .string s] W (SeqOut (ints l) l.length R1 W)) ∧
    Hid (∀ W a b o c, ListIn W a b o xs → Calls Try.prog 25 #[.agg #[.slice a xs.length c], .string s] W (SeqOut (ints l) l.length R1 W)) :=
  ⟨_, _, Nat.le_trans (lbh_le xs s) hl, fun W a b o c h => sLettersBehind_any a b o c xs s W h hs, fun W a b o c h => lettersBehind_any a b o c xs s W h hs⟩
end Go.Proofs.Ythkafalpjokfeaa
